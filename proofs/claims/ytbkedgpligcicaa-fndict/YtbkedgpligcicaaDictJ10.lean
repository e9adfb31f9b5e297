import Derived.Test.YtbkedgpligcicaaDictJ09
namespace Go.Proofs.Ytbkedgpligcicaa
open Go Go.RowKit
set_option linter.unusedVariables false
set_option maxRecDepth 100000


set_option maxHeartbeats 8000000 in
theorem build_any (hmake : ∀ (base bm bb : Nat) (aT : Option Addr) (cT : Nat) (ts : List Tx) (f : Nat), MakeC base bm bb aT cT ts (f + 1)) (ts : List Tx) (aT : Option Addr) (cT : Nat) (w : World) (hl : ts.length ≤ 4096) (hr : RiseT ts) (h64 : ∀ t ∈ ts, t.length ≤ 64) (hT : ts = [] ∨ ∃ g off, aT = some ⟨g, off, none⟩ ∧ g < w.heap.size ∧ ∀ j, j < ts.length → w.cell? ⟨g, off + j, none⟩ = some (.string ⟨(ts.getD j []).toArray⟩)) :
    Calls Try.prog 36 #[.slice aT ts.length cT] w fun e w' => BuildPost ts w e w' := by
  obtain ⟨i0, hi, hz0, hz1, hz2⟩ := info_parts Try.infoSl
  have HMk := hidd hmake
  have HT := hidd hT
  have HR := hidd hr
  have H64 := hidd h64
  clear hmake hT hr h64
  go_enter Try.func36, Try.ntmps36
  go_wp2_with (at_make; refine wpList_make_full _ rfl _ _ 110 rfl w.heap.size 66 i0 (.slice none 0 0) 1 Try.underlying110 hi hz0 hz1 _ _ _ _ 1024 rfl rfl (by omega) (by omega) ?b2 ?b3 (by simp) ?_)
  case b2 => rw [hz2]; omega
  case b3 => unfold maxLen; omega
  intro w1 hown1 hgrow1
  have hbw1 : Below w.heap.size w w1 := ((Below.refl _ _).alloc (Nat.le_refl _) _).grown hgrow1 (by simp) (fun k h => by cases h)
  have hbx1 : w1.heap[w.heap.size]? = some (.cells #[.int .i64 0, .slice none 0 0] 27) := (((Below.refl _ _).grown hgrow1 (Nat.le_refl _) (fun k h => by cases h)).block w.heap.size (by simp)).trans (heap_alloc_new w _)
  have Hbx1 := hidd hbx1
  clear hbx1
  have hz1w : w.heap.size + 1 < w1.heap.size := by
    rcases hown1.2 with ⟨h', _⟩ | ⟨g, cap, cur, h', _, hg, _⟩
    · simp at h'
    · simp only [Value.slice.injEq, Option.some.injEq, Addr.mk.injEq, and_true, true_and] at h'
      obtain ⟨rfl, rfl⟩ := h'
      exact (Array.getElem?_eq_some_iff.1 hg).1
  have hcs : ∃ cs : Array Value, w1.heap[w.heap.size + 1]? = some (.cells cs 66) ∧ cs.size = 1024 ∧ ∀ h, h < 1024 → cs[h]? = some (.slice none 0 0) := by
    rcases hown1.2 with ⟨h', _⟩ | ⟨g, cap, cur, h', _, hg, hc1, hc2, hc3, hc4⟩
    · simp at h'
    · simp only [Value.slice.injEq, Option.some.injEq, Addr.mk.injEq, and_true, true_and] at h'
      obtain ⟨rfl, rfl⟩ := h'
      refine ⟨cur, hg, by omega, fun h hh => ?_⟩
      have e0 : (madeCells #[Value.slice none 0 0] 1024).toList = List.replicate 1024 (Value.slice none 0 0) := toList_madeCells_one _ _
      rw [e0] at hc4
      have e1 := congrArg (fun l => l[h]?) hc4
      simp only [List.getElem?_take, List.getElem?_replicate] at e1
      rw [if_pos (by omega), if_pos hh] at e1
      rw [← Array.getElem?_toList]
      exact e1
  obtain ⟨cs, hcs1, hcs2, hcs3⟩ := hcs
  have HBw1 := hidd hbw1
  have HBm : Hid (Below w1.heap.size w1 (w1.alloc (.cells #[.slice aT ts.length cT, .slice none 0 0, .slice none 0 0, .slice (some ⟨w.heap.size + 1, 0, none⟩) 1024 1024] 112))) := (Below.refl _ _).alloc (Nat.le_refl _) _
  have Hbx := hidd (heap_alloc_new w1 (.cells #[.slice aT ts.length cT, .slice none 0 0, .slice none 0 0, .slice (some ⟨w.heap.size + 1, 0, none⟩) 1024 1024] 112))
  have hsuf : suf ts 0 ts.length 0 = ts := by
    unfold suf
    have e1 : (List.drop 0 : Tx → Tx) = id := by funext x; rfl
    rw [e1, List.map_id, List.drop_zero, Nat.sub_zero, List.take_length]
  have HSt : Hid (MkAt (w1.alloc (.cells #[.slice aT ts.length cT, .slice none 0 0, .slice none 0 0, .slice (some ⟨w.heap.size + 1, 0, none⟩) 1024 1024] 112)) (rStart w1.heap.size (w.heap.size + 1)) w.heap.size w1.heap.size (w.heap.size + 1) aT ts.length cT [] (.slice none 0 0) (fun _ => .slice none 0 0) [] cs) := mk_start Hbx.out (by omega) (by omega) (by omega) (blko hcs1 HBm.out) hcs2 hcs3
  have HTs : Hid (TsAt (w1.alloc (.cells #[.slice aT ts.length cT, .slice none 0 0, .slice none 0 0, .slice (some ⟨w.heap.size + 1, 0, none⟩) 1024 1024] 112)) (rStart w1.heap.size (w.heap.size + 1)) aT ts) := by
    rcases HT.out with h | ⟨g, off, e, hg, hc⟩
    · exact Or.inl h
    · have hb2 := HBw1.out.trans (HBm.out.mono HBw1.out.size)
      refine Or.inr ⟨g, off, e, Nat.lt_of_lt_of_le hg hb2.size, ?_, fun j hj => (hb2.cell (p := ⟨g, off + j, none⟩) hg).trans (hc j hj)⟩
      rw [rStart, if_neg (by omega), if_neg (by omega)]
  have hszt := szT_le H64.out
  have hmul : ts.length * (64 + 1) ≤ 4096 * (64 + 1) := Nat.mul_le_mul_right _ hl
  have HCall := hidd (HMk.out w.heap.size w1.heap.size (w.heap.size + 1) aT cT ts 64 0 ts.length 0 _ _ _ _ _ _ _ (Nat.zero_le _) (Nat.le_refl _) hl (fun t ht => by rw [hsuf] at ht; have := H64.out t ht; omega) (by omega) (fun j _ _ => Nat.zero_le _) (by rw [hsuf]; exact HR.out) HSt.out OkO.nil HTs.out (by rw [hsuf]; simp; omega) (by simp; omega))
  rw [hsuf] at HCall
  have hsz5 : szT ts ≤ 299998 := by omega
  clear hown1 hgrow1 hcs1 hcs2 hcs3 hszt hmul hsuf hbw1
  go_wp2_with fail
  refine HCall.out.mono ?_
  rintro e w2 ⟨O, r, vS, vb, xs, cs2, rfl, q1, q2, q3, q4, q5, q6⟩
  obtain ⟨gS, cS, _, _, rfl, hgS, _⟩ := q1.stAt (x := O.idxOf ts) (List.idxOf_lt_length_of_mem q4)
  have HO1 : O.length ≤ 300000 := by have := q5; simp at this; omega
  have hrx : O.idxOf ts < O.length := List.idxOf_lt_length_of_mem q4
  have HM := hidd q1
  have HOk := hidd q2
  have HIn := hidd q4
  have HFr := hidd q6
  have y1 : w2.cell? ⟨w1.heap.size, 1, none⟩ = some (.slice (some ⟨gS, 0, none⟩) O.length cS) := blkc q1.box 1
  clear q1 q2 q3 q4 q5 q6 HCall HSt HTs
  dsimp only
  obtain ⟨i1, hi1, hy0, hy1, hy2⟩ := info_parts Try.infoIn
  go_wp2_with (at_make; refine wpList_make_full _ rfl _ _ 66 rfl w2.heap.size 3 i1 (.int .i64 0) 1 Try.underlying66 hi1 hy0 hy1 _ _ _ _ O.length rfl rfl (by omega) (by omega) ?b2 ?b3 (Nat.le_refl _) ?_)
  case b2 => rw [hy2]; omega
  case b3 => unfold maxLen; omega
  intro w3 hown3 hgrow3
  have hNB : w1.heap.size < w2.heap.size := by have := HFr.out.size; simp at this; omega
  have HBX : Hid (w2.heap[w.heap.size]? = some (.cells #[.int .i64 0, .slice none 0 0] 27)) := (HFr.out.keep w.heap.size (by simp; omega) (Or.inl (by rw [rStart, if_neg (by omega), if_neg (by omega)]))).trans (blko Hbx1.out HBm.out)
  have HBW : Hid (Below w.heap.size w w2) := by
    have hf := HFr.out
    have hb2 := HBw1.out.trans (HBm.out.mono HBw1.out.size)
    refine hb2.trans ⟨hf.os, hf.tape, hf.output, hf.size, fun b hb => hf.keep b (by simp; omega) (Or.inl (by rw [rStart, if_neg (by omega), if_neg (by omega)]))⟩
  have HO0 : Hid (w3.ownsRow w2.heap.size 3 1 (.slice (some ⟨w2.heap.size, 0, none⟩) O.length O.length) O.length (rowZ (fillZ 0) O.length)) := by
    have e0 : (madeCells #[Value.int .i64 0] O.length).toList = List.replicate O.length (Value.int .i64 0) := toList_madeCells_one _ _
    rw [e0] at hown3
    show World.ownsRow _ _ _ _ _ _ _
    rw [fillZ_zero]
    exact hown3
  have HB0 : Hid (Below w2.heap.size w2 w3) := (Below.refl _ _).grown hgrow3 (Nat.le_refl _) (fun k h => by cases h)
  clear hown3 hgrow3
  go_wp2
  go_loopw [6] (fun kv wr => ∃ k : Nat, k ≤ O.length ∧ kv = .int .i64 (k : Int) ∧ wr.ownsRow w2.heap.size 3 1 (.slice (some ⟨w2.heap.size, 0, none⟩) O.length O.length) O.length (rowZ (fillZ k) O.length) ∧ Below w2.heap.size w2 wr) (fun kv _ => O.length - (intOf kv).toNat)
  case atStart => exact ⟨0, Nat.zero_le _, rfl, HO0.out, HB0.out⟩
  case round =>
    obtain ⟨k, hk, rfl, hown, hbel⟩ := hrel
    clear HO0 HB0
    have HO := hidd hown
    have HB := hidd hbel
    clear hown hbel
    by_cases hlt : k < O.length
    · have hltz : (k : Int) < (O.length : Int) := by omega
      have f1 := HO.out.frozenAt k
      have c1 := (HO.out.cellAt k (by omega)).trans (rowZ_at (fillZ k) hlt)
      have st := hidd (HO.out.stored k (.int .i64 (-1)))
      have Hst := hidd ((rowZ_set (fillZ k) O.length k (-1)).trans (fillZ_step k O.length))
      clear HO
      go_wp2
      go_roundw
      case rel =>
        have h := st.out.1
        rw [Hst.out] at h
        exact ⟨k + 1, by omega, by go_num, h, HB.out.setCell (p := ⟨w2.heap.size, k, none⟩) (Nat.le_refl _) _⟩
      case measure => simp [intOf]; omega
    · have hltz : ¬ (k : Int) < (O.length : Int) := by omega
      obtain rfl : k = O.length := by omega
      rw [fillZ_end] at HO
      have hnw := own_lt HO.out
      have HBo := hidd ((Below.refl wr.heap.size wr).alloc (Nat.le_refl _) (.cells #[Value.int .i64 ((O.idxOf ts : Nat) : Int)] 3))
      have HO2 := hidd (own_below HO.out HBo.out)
      have f1 := HO2.out.frozenAt (O.idxOf ts)
      have c1 := (HO2.out.cellAt (O.idxOf ts) (by omega)).trans (rowZ_at (numZ []) hrx)
      have st := hidd (HO.out.stored (O.idxOf ts) (.int .i64 0))
      have Hst := hidd ((rowZ_set (numZ []) O.length (O.idxOf ts) 0).trans (numZ_push [] (O.idxOf ts) O.length (by simp)))
      clear HO HO2
      go_wp2
      go_loopw [7, 9] (fun ov iv W => ∃ (i : Nat) (ord : List Nat) (dv : Value) (xs : List Value), iv = .int .i64 (i : Int) ∧ BI w2 O ts.length (O.idxOf ts) (wr.heap.size + 1) i ord ov dv xs W) (fun _ iv _ => O.length - (intOf iv).toNat)
      case atStart =>
        refine ⟨0, [O.idxOf ts], .slice none 0 0, [], rfl, ?_⟩
        have hw2 : w2.heap.size ≤ wr.heap.size := by omega
        have b1 : Below w2.heap.size w2 (wr.setCell ⟨w2.heap.size, O.idxOf ts, none⟩ (.int .i64 0)) := HB.out.setCell (p := ⟨w2.heap.size, O.idxOf ts, none⟩) (Nat.le_refl _) _
        have h := st.out.1
        rw [Hst.out] at h
        have b2 := (Below.refl _ (wr.setCell ⟨w2.heap.size, O.idxOf ts, none⟩ (.int .i64 0))).alloc (Nat.le_refl _) (.cells #[Value.int .i64 ((O.idxOf ts : Nat) : Int)] 3)
        have b3 := b2.alloc (by simp) (.cells #[Value.int .i64 (ts.length : Int), Value.slice none 0 0] 27)
        refine ⟨⟨b1.trans (b3.mono (by simp; omega)), own_below h b3, ?_, by omega, ?_, World.ownsRow_nil _ _ _ _, by simpa using hrx, fun j hj => by omega⟩, rfl, by simp⟩
        · have hl1 := World.ownsRow_lit (base := w2.heap.size + 1) (e := 3) (size := 1) (wr.setCell ⟨w2.heap.size, O.idxOf ts, none⟩ (.int .i64 0)) #[Value.int .i64 ((O.idxOf ts : Nat) : Int)] 1 (by simp; omega) (by unfold maxLen; omega) rfl
          have e1 : (wr.setCell ⟨w2.heap.size, O.idxOf ts, none⟩ (.int .i64 0)).heap.size = wr.heap.size := by simp
          rw [e1] at hl1
          exact own_below hl1 ((Below.refl _ _).alloc (Nat.le_refl _) _)
        · have e2 := heap_alloc_new ((wr.setCell ⟨w2.heap.size, O.idxOf ts, none⟩ (.int .i64 0)).alloc (.cells #[Value.int .i64 ((O.idxOf ts : Nat) : Int)] 3)) (.cells #[Value.int .i64 (ts.length : Int), Value.slice none 0 0] 27)
          simpa using e2
      case round =>
        obtain ⟨i, ord, dv, xs2, rfl, hbi⟩ := hrel
        clear st Hst HB HBo f1 c1
        have HI := hidd hbi
        have hle := hbi.le
        obtain ⟨aO, cO, rfl⟩ := own_form hbi.ordr
        obtain ⟨aD, cD, rfl⟩ := own_form hbi.drow
        clear hbi
        by_cases hlt : i < ord.length
        · have hltz : (i : Int) < (ord.length : Int) := by omega
          have hx1 : ord[i]? = some (ord.getD i 0) := by simp [List.getD_eq_getElem?_getD, hlt]
          have hx : ord.getD i 0 < O.length := HI.out.all _ (List.mem_of_getElem? hx1)
          generalize ord.getD i 0 = x at hx1 hx
          obtain ⟨gS', cS', aj, cj, e1, hgS2, k1, k2, k3⟩ := HM.out.stAt hx
          replace k1 := (HI.out.bel.cell (p := ⟨gS', x * 2, none⟩) hgS2).trans k1
          replace k2 := (HI.out.bel.cell (p := ⟨gS', x * 2 + 1, none⟩) hgS2).trans k2
          simp only [Value.slice.injEq, Option.some.injEq, Addr.mk.injEq, and_true, true_and] at e1
          obtain ⟨rfl, rfl⟩ := e1
          have k4 : wr.cell? ⟨w1.heap.size, 1, none⟩ = some (.slice (some ⟨gS, 0, none⟩) O.length cS) := (HI.out.bel.cell (p := ⟨w1.heap.size, 1, none⟩) (by show w1.heap.size < w2.heap.size; omega)).trans y1
          rcases own_cases HI.out.ordr with ⟨_, h0⟩ | ⟨gO, cO', e2, hgO, hgO2⟩
          · omega
          simp only [Value.slice.injEq, true_and] at e2
          obtain ⟨rfl, rfl⟩ := e2
          have k5 : wr.cell? ⟨gO, i, none⟩ = some (.int .i64 (x : Int)) := (HI.out.ordr.cellAt i (by omega)).trans (by simp [nV, hx1])
          have hxz : (x : Int) < (O.length : Int) := by omega
          have HK3 := hidd k3
          clear k3
          have Ba := (Below.refl wr.heap.size wr).alloc (Nat.le_refl _) (.cells #[Value.bool false, Value.slice none 0 0] 82)
          have hwz := HI.out.bel.size
          generalize hs : (stM O).getD x st0 = s at k1 k2 HK3
          have HAt := hidd (arc_to HOk.out hx hs)
          have HS := hidd hs
          have HX1 := hidd hx1
          have HNd : Hid (ord.Nodup) := by show ord.Nodup; rw [← HI.out.met]; exact bfs_nodup _ _ _ _ (by simp)
          clear hs hx1
          have j1 := (Ba.cell (p := ⟨gS, x * 2, none⟩) (by show gS < wr.heap.size; omega)).trans k1
          have j2 := (Ba.cell (p := ⟨gS, x * 2 + 1, none⟩) (by show gS < wr.heap.size; omega)).trans k2
          have j4 := (Ba.cell (p := ⟨w1.heap.size, 1, none⟩) (by show w1.heap.size < wr.heap.size; omega)).trans k4
          have j5 := (Ba.cell (p := ⟨gO, i, none⟩) hgO2).trans k5
          clear Ba
          go_wp2_with fail
          go_cut [10] (fun pv wy => pv = .pointer (some ⟨wr.heap.size, 0, none⟩) ∧ wy = (wr.alloc (.cells #[.bool s.1, .slice aj s.2.length cj] 82)).drew)
          case first =>
            go_region
            all_goals go_wp2_with fail
            go_meet
            case rel => exact ⟨rfl, rfl⟩
          case rest =>
            obtain ⟨rfl, rfl⟩ := hcut
            clear j1 j2 j4 j5 k1 k2 k4 k5
            have HI2 : Hid (BI w2 O ts.length (O.idxOf ts) _ i ord _ _ xs2 (wr.alloc (.cells #[.bool s.1, .slice aj s.2.length cj] 82)).drew) := HI.out.below (below_drewN ((Below.refl wr.heap.size wr).alloc (Nat.le_refl _) _) 1)
            have hDB : wr.heap.size > _ := (Array.getElem?_eq_some_iff.1 HI.out.dbox).1
            go_wp2
            go_loopw [7, 12] (fun ov kv W => ∃ (k : Nat) (ord' : List Nat) (va : Value), kv = .int .i64 (k : Int) ∧ BJ w2 O ts.length _ wr.heap.size i k ord ord' s aj cj ov (.slice aD i cD) va xs2 W) (fun _ kv _ => s.2.length - (intOf kv).toNat)
            case atStart =>
              refine ⟨0, ord, .slice none 0 0, rfl, ⟨HI.out.toBC.below ?_, hlt, ⟨?_, hDB⟩, fun b hb => ?_, fun j q a c b off hj e1 e2 => ?_, ?_, ?_, World.ownsRow_nil _ _ _ _⟩, Nat.zero_le _, rfl⟩
              · exact below_drewN (((Below.refl wr.heap.size wr).alloc (Nat.le_refl _) _).alloc (by simp) _) 1
              · omega
              · obtain ⟨_, cur, hc⟩ := own_blk HI.out.drow hb
                exact (Array.getElem?_eq_some_iff.1 hc).1
              · obtain ⟨_, _, a', c', e3, _, e4⟩ := HI.out.sts j hj
                rw [e1] at e3
                simp only [Option.some.injEq, Value.slice.injEq] at e3
                obtain ⟨_, cur, hc⟩ := e4 b off (by rw [← e3.1]; exact e2)
                exact (Array.getElem?_eq_some_iff.1 hc).1
              · exact blko (heap_alloc_new wr _) (below_drewN ((Below.refl _ _).alloc (Nat.le_refl _) _) 1)
              · have e9 := heap_alloc_new (wr.alloc (.cells #[.bool s.1, .slice aj s.2.length cj] 82)) (.cells #[.bool s.1, .slice none 0 0] 82)
                have e10 : (wr.alloc (.cells #[.bool s.1, .slice aj s.2.length cj] 82)).heap.size = wr.heap.size + 1 := by simp
                rw [e10] at e9
                exact blko e9 (below_drewN (Below.refl _ _) 1)
            case round =>
              obtain ⟨k, ord', va, rfl, hbj⟩ := hrel
              have HJ := hidd hbj
              have hkl := hbj.kle
              obtain ⟨aO2, cO2, rfl⟩ := own_form hbj.ordr
              have b1 := blkc hbj.sbox 1
              have b2 := blkc hbj.obox 1
              have b3 := blkc hbj.obox 0
              clear hbj
              by_cases hkk : k < s.2.length
              · have hkz : (k : Int) < (s.2.length : Int) := by omega
                obtain ⟨gA, oA, rfl, hgA, hcA⟩ := (HK3.out.below HJ.out.bel).resolve_left (fun h => by rw [h] at hkk; simp at hkk)
                obtain ⟨p0, p1, p2⟩ := hcA k hkk
                clear hcA
                obtain ⟨a, ha⟩ : ∃ a, s.2[k]? = some a := ⟨_, List.getElem?_eq_getElem hkk⟩
                have ha2 : s.2.getD k ar0 = a := by rw [List.getD_eq_getElem?_getD, ha]; rfl
                rw [ha2] at p0 p1 p2
                have HA := hidd ha
                have ham : a ∈ s.2 := List.mem_of_getElem? ha
                have hay := (HAt.out.2 a ham).1
                have hyO := (HAt.out.2 a ham).2
                clear ha ha2
                obtain ⟨y, hy⟩ : ∃ y, a.2.1.toNat = y := ⟨_, rfl⟩
                rw [hy] at hay hyO
                have HY := hidd hy
                clear hy
                obtain ⟨a0, a1, a2⟩ := a
                dsimp only at p0 p1 p2 hay
                subst hay
                clear b2 b3
                have hwb := HJ.out.bel.size
                have hov := HJ.out.len HNd.out
                have hsl := HAt.out.1
                have hslt := HJ.out.slt
                have hSB := (Array.getElem?_eq_some_iff.1 HJ.out.obox).1
                have HBq := hidd ((Below.refl wr.heap.size wr).alloc (Nat.le_refl _) (.cells #[Value.int .i64 a0, Value.int .i64 (y : Int), Value.int .i64 a2] 85))
                have HQ := hidd (heap_alloc_new wr (.cells #[Value.int .i64 a0, Value.int .i64 (y : Int), Value.int .i64 a2] 85))
                have hvq : va.ownBlock ≠ some wr.heap.size := fun e => by
                  obtain ⟨_, cur, hc⟩ := own_blk HJ.out.arow e
                  have := (Array.getElem?_eq_some_iff.1 hc).1
                  omega
                have HVq := hidd hvq
                clear hvq
                go_upto_region 20 with fail
                obtain ⟨QB, hQB⟩ : ∃ QB, wr.heap.size = QB := ⟨_, rfl⟩
                obtain ⟨wq, hwq⟩ : ∃ wq, wr.alloc (.cells #[Value.int .i64 a0, Value.int .i64 (y : Int), Value.int .i64 a2] 85) = wq := ⟨_, rfl⟩
                rw [hwq] at HBq HQ
                try rw [hwq]
                clear hwq
                have HL : Hid (BL w2 O ts.length _ _ i k ord' s _ cj _ _ va xs2 wq) := HJ.out.toBL.below HBq.out
                have Hordk := hidd HJ.out.ordk
                have Htold := hidd HJ.out.told
                rw [hQB] at HQ HVq hwb hSB
                try rw [hQB]
                have hQw : QB < wq.heap.size := (Array.getElem?_eq_some_iff.1 HQ.out).1
                clear HJ HBq hQB p0 p1 p2 b1 HI HI2
                have q0 := blkc HQ.out 0
                have q1 := blkc HQ.out 1
                have q2 := blkc HQ.out 2
                have f1 := HL.out.num.frozenAt y
                have n1 := (HL.out.num.cellAt y (by omega)).trans (rowZ_at (numZ ord') hyO)
                obtain ⟨z, hz⟩ : ∃ z, numZ ord' y = z := ⟨_, rfl⟩
                rw [hz] at n1
                have HZ := hidd hz
                clear hz
                have hyz : (y : Int) < (O.length : Int) := by omega
                go_upto_if 81 with fail
                go_cut [7] (fun ov wy => ∃ (ordn : List Nat) (aN : Option Addr) (cN : Nat), ov = .slice aN ordn.length cN ∧ BL w2 O ts.length _ _ i k ordn s _ cj ov _ va xs2 wy ∧ wy.heap[QB]? = some (.cells #[Value.int .i64 a0, Value.int .i64 (y : Int), Value.int .i64 a2] 85) ∧ y ∈ ordn ∧ ordn = meets ord ((s.2.take (k + 1)).map fun a => a.2.1.toNat))
                case first =>
                  by_cases hm : y ∈ ord'
                  · have hz : ¬ z < 0 := by rw [← HZ.out, numZ_in hm]; omega
                    go_wp2_with fail
                    go_meet
                    case rel => exact ⟨ord', _, _, rfl, HL.out, HQ.out, hm, ordk_in HA.out HY.out Hordk.out hm⟩
                  · have hz : z < 0 := by rw [← HZ.out, numZ_not hm]; omega
                    have HOV : Hid ((wq.setCell ⟨w2.heap.size, y, none⟩ (.int .i64 (ord'.length : Int))).ownsRow (w2.heap.size + 1) 3 1 (.slice aO2 ord'.length cO2) ord'.length (nV ord')) := own_congr HL.out.ordr fun b hb => by
                      have := (own_blk HL.out.ordr hb).1
                      exact heap_set_other wq w2.heap.size y _ b (by omega)
                    have HQ2 := hidd ((heap_set_other wq w2.heap.size y (.int .i64 (ord'.length : Int)) QB (by omega)).trans HQ.out)
                    have s1 := blkc HQ2.out 1
                    have hVw : w2.heap.size + 1 ≤ wq.heap.size := by omega
                    have Hm := hidd hm
                    clear hm
                    go_wp2_with (at_builtin; refine wpList_append_lies _ rfl (.tmp 88) (.tmp 91) 66 rfl (w2.heap.size + 1) 3 i1 (.int .i64 0) 1 8 Try.underlying66 hi1 hy0 hy1 hy2 rfl (by decide) (.slice aO2 ord'.length cO2) ord'.length (nV ord') rfl (HOV.out.alloc _) ⟨wq.heap.size, 0, none⟩ 1 1 [.int .i64 (y : Int)] rfl rfl ?d1 ?d2 (by decide) ?d3 ?d4 ?d5 _ rfl ?_)
                    case d2 => rfl
                    case d3 => unfold maxLen; omega
                    case d4 => omega
                    case d5 => omega
                    intro g6 cp6 w6 hown6 hgrow6 hat6 hlt6
                    have HB6 : Hid (Below wq.heap.size (wq.setCell ⟨w2.heap.size, y, none⟩ (.int .i64 (ord'.length : Int))) ((wq.setCell ⟨w2.heap.size, y, none⟩ (.int .i64 (ord'.length : Int))).alloc (.cells #[Value.int .i64 (y : Int)] 3))) := (Below.refl _ _).alloc (by simp) _
                    have HL6 := hidd (HL.out.push Hm.out hyO Htold.out HB6.out hown6 hgrow6)
                    have HQ6 : Hid (w6.heap[QB]? = some (.cells #[Value.int .i64 a0, Value.int .i64 (y : Int), Value.int .i64 a2] 85)) := box_grown HQ2.out (HB6.out.mono (by simp)) hgrow6 (fun e => by
                      obtain ⟨_, cur, hc⟩ := own_blk HOV.out e
                      exact blk_ne hc HQ2.out (by decide) rfl)
                    clear hown6 hgrow6 hat6 hlt6 s1
                    go_wp2_with fail
                    go_meet
                    case rel => exact ⟨ord' ++ [y], _, _, by rw [List.length_append]; rfl, HL6.out, HQ6.out, by simp, ordk_new HA.out HY.out Hordk.out Hm.out⟩
                case rest =>
                  obtain ⟨ordn, aN, cN, rfl, hbl, hq, hyn, hordn⟩ := hcut
                  have HLn := hidd hbl
                  have HQn := hidd hq
                  have HYn := hidd hyn
                  have HOn := hidd hordn
                  clear hbl hq hyn hordn HL HQ Hordk Htold q0 q1 q2 f1 n1
                  have q0 := blkc HQn.out 0
                  have q1 := blkc HQn.out 1
                  have q2 := blkc HQn.out 2
                  have qf := blkf HQn.out 1
                  have n1 := ((HLn.out.num.cellAt y (by omega)).trans (rowZ_at (numZ ordn) hyO))
                  rw [numZ_in HYn.out] at n1
                  have HR := hidd (renum_at (ord := ordn) HA.out)
                  rw [HY.out] at HR
                  generalize ordn.idxOf y = y2 at n1 HR
                  have HLz := hidd (HLn.out.box HQn.out HVq.out (by omega) (.int .i64 (y2 : Int)))
                  have HQz := hidd (heap_set_same HQn.out 1 (.int .i64 (y2 : Int)))
                  go_upto_region 24 with fail
                  have hQz : QB < wc.heap.size := (Array.getElem?_eq_some_iff.1 HQn.out).1
                  obtain ⟨wz, hwz⟩ : ∃ wz, wc.setCell ⟨QB, 1, none⟩ (.int .i64 (y2 : Int)) = wz := ⟨_, rfl⟩
                  rw [hwz] at HLz HQz
                  try rw [hwz]
                  clear q0 q1 q2 qf n1 HLn HQn hwz hQz
                  obtain ⟨i2, hi2', hv0, hv1, hv2⟩ := info_parts Try.infoArc
                  have q0 := blkc HQz.out 0
                  have q1 := blkc HQz.out 1
                  have q2 := blkc HQz.out 2
                  have s1 := blkc HLz.out.obox 1
                  have hwzb := HLz.out.bel.size
                  have hSz := (Array.getElem?_eq_some_iff.1 HLz.out.obox).1
                  have hQz : QB < wz.heap.size := (Array.getElem?_eq_some_iff.1 HQz.out).1
                  have HOV := hidd HLz.out.arow
                  go_wp2_with (at_builtin; refine wpList_append_lies _ rfl (.tmp 100) (.tmp 102) 80 rfl (_ + 2) 85 i2 (.agg #[.int .i64 0, .int .i64 0, .int .i64 0]) 3 24 Try.underlying80 hi2' hv0 hv1 hv2 rfl (by decide) va k (aC ((renum ordn s).2.take k)) rfl (HOV.out.alloc _) ⟨wz.heap.size, 0, none⟩ 1 1 [.int .i64 a0, .int .i64 (y2 : Int), .int .i64 a2] rfl rfl ?g1 ?g2 (by decide) ?g3 ?g4 ?g5 _ rfl ?_)
                  case g2 => exact ⟨rfl, rfl, rfl⟩
                  case g3 => unfold maxLen; omega
                  case g4 => omega
                  case g5 => omega
                  intro g6 cp6 w6 hown6 hgrow6 hat6 hlt6
                  obtain ⟨t1, t2, t3⟩ := HLz.out.arc HR.out ((Below.refl _ _).alloc (Nat.le_refl _) _) hown6 hgrow6 (by simpa using hat6)
                  have HT3 := hidd t3
                  clear t3 hown6 hgrow6 hat6 hlt6 HLz HOV q0 q1 q2 s1
                  go_wp2_with fail
                  go_roundw
                  case rel => exact ⟨k + 1, ordn, _, by go_num, HT3.out, by omega, HOn.out⟩
                  case measure => simp [intOf]; omega
              · have hkz : ¬ (k : Int) < (s.2.length : Int) := by omega
                obtain rfl : k = s.2.length := by omega
                obtain ⟨i2, hi2', hv0, hv1, hv2⟩ := info_parts Try.infoSt
                have b4 := blkc HJ.out.dbox 1
                have hil := HJ.out.il
                have hov := HJ.out.len HNd.out
                have hwb := HJ.out.bel.size
                have hDB2 := (Array.getElem?_eq_some_iff.1 HJ.out.dbox).1
                have hSB2 := (Array.getElem?_eq_some_iff.1 HJ.out.obox).1
                have hlt2 := HJ.out.lt
                have HOV : Hid (wr.ownsRow (w2.heap.size + 1) 82 2 (.slice aD i cD) i xs2) := HJ.out.drow
                clear HI2
                go_wp2_with (at_builtin; refine wpList_append_lies _ rfl (.tmp 106) (.tmp 108) 25 rfl (w2.heap.size + 1) 82 i2 (.agg #[.bool false, .slice none 0 0]) 2 32 Try.underlying25 hi2' hv0 hv1 hv2 rfl (by decide) (.slice aD i cD) i xs2 rfl (HOV.out.alloc _) ⟨wr.heap.size, 0, none⟩ 1 1 [.bool s.1, va] rfl rfl ?e1 ?e2 (by decide) ?e3 ?e4 ?e5 _ rfl ?_)
                case e2 => obtain ⟨a9, c9, rfl⟩ := own_form HJ.out.arow; exact ⟨rfl, rfl⟩
                case e3 => unfold maxLen; omega
                case e4 => omega
                intro g6 cp6 w6 hown6 hgrow6 hat6 hlt6
                obtain ⟨t1, t2, t3⟩ := HJ.out.next HI.out.met HX1.out HS.out ((Below.refl _ _).alloc (Nat.le_refl _) _) hown6 hgrow6 (by simpa using hat6)
                have HT3 := hidd t3
                clear t3 hown6 hgrow6 hat6 hlt6 HJ
                go_wp2_with fail
                go_roundw
                case rel => exact ⟨i + 1, _, _, _, by go_num, HT3.out⟩
                case measure => have h9 := HT3.out.len; have h8 := HT3.out.le; simp [intOf]; omega
        · have hltz : ¬ (i : Int) < (ord.length : Int) := by omega
          obtain rfl : i = ord.length := by omega
          have hbz : w.heap.size < w2.heap.size := by omega
          have d0 := blkc HI.out.dbox 0
          have d1 := blkc HI.out.dbox 1
          have hxb := (HI.out.bel.block w.heap.size (by omega)).trans HBX.out
          have x0 := blkc hxb 0
          have x1 := blkc hxb 1
          have x2 := blkf hxb 0
          have x3 := blkf hxb 1
          have HXb := hidd hxb
          clear hxb
          go_wp2
          have HXs := hidd (blk_set2 (x := .int .i64 (ts.length : Int)) (y := .slice aD ord.length cD) HXb.out)
          have y0 := blkc HXs.out 0
          have y1 := blkc HXs.out 1
          refine bodyPost_ret (v := .agg #[.int .i64 (ts.length : Int), .slice aD ord.length cD]) (by simp [results, Try.results36, go_sem, *]) rfl ?_
          exact build_post HI.out HOk.out HIn.out HBW.out hbz HXb.out HO1
end Go.Proofs.Ytbkedgpligcicaa
