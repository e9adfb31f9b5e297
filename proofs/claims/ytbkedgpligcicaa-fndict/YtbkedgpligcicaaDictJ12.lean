import Derived.Test.YtbkedgpligcicaaDictJ09
import Derived.Test.YtbkedgpligcicaaDictJ10
import Derived.Test.YtbkedgpligcicaaDictJ11
import Derived.Deep.DeepBigQuietO
namespace Go.Proofs.Ytbkedgpligcicaa
open Go Go.RowKit
set_option linter.unusedVariables false
set_option maxRecDepth 100000

/-- What l04All does. -/
def AllPost (c : Int) (S : List St) (w : World) (e : Ending) (w' : World) : Prop :=
  ∃ v, e = .returned (.tuple #[v, .bool (okD c S)]) ∧ Below w.heap.size w w' ∧ ∀ ts, IsDict (c, S) ts → w'.ownsRow w.heap.size 9 1 v ts.length (tCells ts)
theorem doneRow {w : World} {base g n : Nat} (h : w.ownsRow base 3 1 (.slice (some ⟨g, 0, none⟩) n n) n (rowZ (fillZ n) n)) : w.heap[g]? = some (.cells (dCells (List.replicate n (-1))).toArray 3) := by
  rcases h.2 with ⟨h', _⟩ | ⟨g', cap, cur, h', _, hg, hc1, hc2, hc3, hc4⟩
  · simp at h'
  · simp only [Value.slice.injEq, Option.some.injEq, Addr.mk.injEq, and_true, true_and] at h'
    obtain ⟨rfl, rfl⟩ := h'
    rw [hg]
    have e1 : rowZ (fillZ n) n = dCells (List.replicate n (-1)) := by
      apply List.ext_getElem?
      intro j
      by_cases hj : j < n
      · rw [rowZ_at _ hj, fillZ, if_pos hj]; simp [dCells, hj]
      · rw [List.getElem?_eq_none (by rw [rowZ_len]; omega), List.getElem?_eq_none (by simp [dCells]; omega)]
    rw [← e1, ← hc4]
    congr 2
    apply Array.ext'
    rw [List.take_of_length_le (by simp; omega)]
theorem allNo {c : Int} {S : List St} {w w' : World} {v : Value} (h : ¬ ∃ ts, IsDict (c, S) ts) (hb : Below w.heap.size w w') : AllPost c S w (.returned (.tuple #[v, .bool false])) w' := ⟨v, by rw [okD_false h], hb, fun ts ht => absurd ⟨ts, ht⟩ h⟩

set_option maxHeartbeats 8000000 in
theorem all_any (hmake : ∀ (base bm bb : Nat) (aT : Option Addr) (cT : Nat) (ts : List Tx) (f : Nat), MakeC base bm bb aT cT ts (f + 1)) (c : Int) (a : Option Addr) (cap : Nat) (S : List St) (w : World) (hn : S.length ≤ 1048576) (hA : ∀ i, (arcsAt S i).length ≤ 1048576) (hS : HoldS w a S) :
    Calls Try.prog 53 #[.agg #[.int .i64 c, .slice a S.length cap]] w fun e w' => AllPost c S w e w' := by
  have HMk := hidd hmake
  have HA := hidd hA
  have HS := hidd hS
  clear hmake hA hS
  have HBa : Hid (Below w.heap.size w (w.alloc (.cells #[.int .i64 c, .slice a S.length cap] 27))) := (Below.refl _ _).alloc (Nat.le_refl _) _
  have Hbx := hidd (heap_alloc_new w (.cells #[.int .i64 c, .slice a S.length cap] 27))
  go_enter Try.func53, Try.ntmps53
  go_upto_region 1 with fail
  obtain ⟨wa, hwa⟩ : ∃ wa, w.alloc (.cells #[.int .i64 c, .slice a S.length cap] 27) = wa := ⟨_, rfl⟩
  rw [hwa] at HBa Hbx
  try rw [hwa]
  clear hwa
  have b0 := blkc Hbx.out 0
  have b1 := blkc Hbx.out 1
  have hzw : w.heap.size < wa.heap.size := (Array.getElem?_eq_some_iff.1 Hbx.out).1
  by_cases h1 : S.length < 1
  · have h1z : (S.length : Int) < 1 := by omega
    have HNo : Hid (¬ ∃ ts, IsDict (c, S) ts) := fun ⟨ts, h⟩ => by have := h.len; omega
    go_wp2_with fail
    go_ret2
    exact allNo HNo.out (HBa.out.alloc (by omega) _)
  have h1z : ¬ (S.length : Int) < 1 := by omega
  by_cases h2 : 16384 < S.length
  · have h2z : (S.length : Int) > 16384 := by omega
    have HNo : Hid (¬ ∃ ts, IsDict (c, S) ts) := fun ⟨ts, h⟩ => by have := h.len; omega
    go_wp2_with fail
    go_ret2
    exact allNo HNo.out (HBa.out.alloc (by omega) _)
  have h2z : ¬ (S.length : Int) > 16384 := by omega
  obtain ⟨gS, oS, rfl, hgS, hcS⟩ := HS.out.resolve_left (fun h => by rw [h] at h1; simp at h1)
  obtain ⟨c0, a0, k0, c1, hA0⟩ := hcS 0 (by omega)
  have c0' : wa.cell? ⟨gS, oS, none⟩ = some (.bool (finAt S 0)) := by
    have := (HBa.out.cell (p := ⟨gS, oS + 0 * 2, none⟩) hgS).trans c0
    simpa [finAt] using this
  have c1' : wa.cell? ⟨gS, oS + 1, none⟩ = some (.slice a0 (arcsAt S 0).length k0) := by
    have := (HBa.out.cell (p := ⟨gS, oS + 0 * 2 + 1, none⟩) hgS).trans c1
    simpa [arcsAt] using this
  clear c0 c1 hcS hA0
  have hA1 := HA.out 0
  obtain ⟨F, hF⟩ : ∃ F, finAt S 0 = F := ⟨_, rfl⟩
  obtain ⟨m, hm⟩ : ∃ m, (arcsAt S 0).length = m := ⟨_, rfl⟩
  rw [hF] at c0'
  rw [hm] at c1' hA1
  have HF := hidd hF
  have Hm := hidd hm
  clear hF hm
  by_cases h3 : S.length = 1 ∧ F = false ∧ m = 0
  · obtain ⟨h31, rfl, rfl⟩ := h3
    have hl1 : ((S.length : Int) == 1) = true := by simp [h31]
    have HOk := hidd (one_ok (c := c) h31 HF.out Hm.out)
    have HDi : Hid (∀ ts, IsDict (c, S) ts → ts = []) := fun ts h => (one_dict h31 HF.out Hm.out h).1
    clear h31
    have HBe := hidd (HBa.out.alloc (by omega) (.cells #[] 9))
    go_wp2_with fail
    go_region
    all_goals
      go_wp2_with fail
      go_ret2
      refine ⟨_, by rw [HOk.out]; rfl, ?_, fun ts ht => ?_⟩
      · first | exact HBe.out | exact below_drewN HBe.out 1
      · rw [HDi.out ts ht]
        have hE := own_empty wa 9
        first | exact own_mono (own_below hE (Below.refl _ _)) (by omega) | exact own_mono (own_below hE (below_drewN (Below.refl _ _) 1)) (by omega)
  have H3 : Hid (¬ (S.length = 1 ∧ finAt S 0 = false ∧ (arcsAt S 0).length = 0)) := by show ¬ _; rw [HF.out, Hm.out]; exact h3
  have HNe : Hid (∀ ts, IsDict (c, S) ts → ts ≠ []) := fun ts h => not_one h H3.out
  go_upto_region 3 with fail
  go_cut [40] (fun cv wy => cv = .bool false ∧ wy = wa)
  case first =>
    by_cases hl1 : S.length = 1
    · have hlb : ((S.length : Int) == 1) = true := by simp [hl1]
      clear hl1
      cases F with
      | true =>
        go_wp2_with fail
        go_meet
        case rel => exact ⟨rfl, rfl⟩
      | false =>
        have hmb : ((m : Int) == 0) = false := beq_false_of_ne (fun e => h3 ⟨by have := eq_of_beq hlb; omega, rfl, by omega⟩)
        go_wp2_with fail
        go_meet
        case rel => exact ⟨rfl, rfl⟩
    · have hlb : ((S.length : Int) == 1) = false := beq_false_of_ne (by omega)
      go_wp2_with fail
      go_meet
      case rel => exact ⟨rfl, rfl⟩
  case rest =>
    obtain ⟨rfl, hwc⟩ := hcut
    have hwc' := hwc.symm
    subst hwc'
    clear hwc
    obtain ⟨i1, hi1, hy0, hy1, hy2⟩ := info_parts Try.infoIn
    go_wp2_with (at_make; refine wpList_make_full _ rfl _ _ 66 rfl wa.heap.size 3 i1 (.int .i64 0) 1 Try.underlying66 hi1 hy0 hy1 _ _ _ _ S.length rfl rfl (by omega) (by omega) ?b2 ?b3 (Nat.le_refl _) ?_)
    case b2 => omega
    case b3 => unfold maxLen; omega
    intro w3 hown3 hgrow3
    have HO0 : Hid (w3.ownsRow wa.heap.size 3 1 (.slice (some ⟨wa.heap.size, 0, none⟩) S.length S.length) S.length (rowZ (fillZ 0) S.length)) := by
      have e0 : (madeCells #[Value.int .i64 0] S.length).toList = List.replicate S.length (Value.int .i64 0) := toList_madeCells_one _ _
      rw [e0] at hown3
      show World.ownsRow _ _ _ _ _ _ _
      rw [fillZ_zero]
      exact hown3
    have HB0 : Hid (Below wa.heap.size wa w3) := (Below.refl _ _).grown hgrow3 (Nat.le_refl _) (fun k h => by cases h)
    clear hown3 hgrow3
    go_wp2
    go_loopw [5] (fun kv wr => ∃ k : Nat, k ≤ S.length ∧ kv = .int .i64 (k : Int) ∧ wr.ownsRow wa.heap.size 3 1 (.slice (some ⟨wa.heap.size, 0, none⟩) S.length S.length) S.length (rowZ (fillZ k) S.length) ∧ Below wa.heap.size wa wr) (fun kv _ => S.length - (intOf kv).toNat)
    case atStart => exact ⟨0, Nat.zero_le _, rfl, HO0.out, HB0.out⟩
    case round =>
      obtain ⟨k, hk, rfl, hown, hbel⟩ := hrel
      clear HO0 HB0
      have HO := hidd hown
      have HB := hidd hbel
      clear hown hbel
      by_cases hlt : k < S.length
      · have hltz : (k : Int) < (S.length : Int) := by omega
        have f1 := HO.out.frozenAt k
        have c1 := (HO.out.cellAt k (by omega)).trans (rowZ_at (fillZ k) hlt)
        have st := hidd (HO.out.stored k (.int .i64 (-1)))
        have Hst := hidd ((rowZ_set (fillZ k) S.length k (-1)).trans (fillZ_step k S.length))
        clear HO
        go_wp2
        go_roundw
        case rel =>
          have h := st.out.1
          rw [Hst.out] at h
          exact ⟨k + 1, by omega, by go_num, h, HB.out.setCell (p := ⟨wa.heap.size, k, none⟩) (Nat.le_refl _) _⟩
        case measure => simp [intOf]; omega
      · have hltz : ¬ (k : Int) < (S.length : Int) := by omega
        obtain rfl : k = S.length := by omega
        have HBw : Hid (Below w.heap.size w wr) := HBa.out.trans (HB.out.mono (by omega))
        have HCn : Hid (CntAt w wr wa.heap.size (some ⟨gS, oS, none⟩) S (List.replicate S.length (-1))) := ⟨HBw.out, HS.out, doneRow HO.out, by omega⟩
        have Hb2 := hidd ((HB.out.block w.heap.size hzw).trans Hbx.out)
        have d0 := blkc Hb2.out 0
        have d1 := blkc Hb2.out 1
        have HCall := hidd (count_any (w0 := w) (bd := wa.heap.size) (aS := some ⟨gS, oS, none⟩) (cS := cap) (c := c) (S := S) (by omega) HA.out 65 0 rfl 0 wr _ _ _ (by omega) HCn.out (cnt_start S))
        clear HO HB
        go_wp2_with fail
        refine HCall.out.mono ?_
        rintro e w2 ⟨x, D, ρ, M, rfl, hcnt, hfr, hok, hx0, hx1, hxv, _, _, _, hsay⟩
        have HSay : Hid (CntSays S x) := fun e g hs hf hd => (hsay e g hs hf (agree_start S e) (fun j _ h => by rw [valD_none] at h; omega) (by omega)).1
        have HB2 := hidd hcnt.old
        have hzz : w.heap.size < wr.heap.size := (Array.getElem?_eq_some_iff.1 Hb2.out).1
        have Hbx2 : Hid (w2.heap[w.heap.size]? = some (.cells #[.int .i64 c, .slice (some ⟨gS, oS, none⟩) S.length cap] 27)) := (hfr.block w.heap.size hzz (by omega) (by omega)).trans Hb2.out
        have HOk := hidd hok.rank
        have HXv := hidd hxv
        clear hcnt hfr hok hxv hsay HCall HCn HBw Hb2 d0 d1 b0 b1 Hbx
        dsimp only
        have e0 := blkc Hbx2.out 0
        have e1 := blkc Hbx2.out 1
        have c0 : w2.cell? ⟨gS, oS, none⟩ = some (.bool F) := by
          obtain ⟨g2, o2, e3, hg2, hc2⟩ := HS.out.resolve_left (fun h => by rw [h] at h1; simp at h1)
          simp only [Option.some.injEq, Addr.mk.injEq, and_true] at e3
          obtain ⟨rfl, rfl⟩ := e3
          have := (HB2.out.cell (p := ⟨gS, oS + 0 * 2, none⟩) hgS).trans (hc2 0 (by omega)).1
          have h9 : finAt S 0 = F := HF.out
          rw [finAt] at h9
          rw [h9] at this
          simpa using this
        go_upto_region 11 with fail
        go_cut [79] (fun cv wy => cv = .bool (decide (x = 0 ∨ 4096 < x ∨ x ≠ c ∨ F = true)) ∧ wy = w2)
        case first =>
          by_cases g1 : x = 0
          · have g1b : (x == 0) = true := by simp [g1]
            have HD : Hid (decide (x = 0 ∨ 4096 < x ∨ x ≠ c ∨ F = true) = true) := by show _ = _; simp [g1]
            clear g1
            go_wp2_with fail
            go_meet
            case rel => exact ⟨by rw [HD.out], rfl⟩
          · have g1b : (x == 0) = false := beq_false_of_ne g1
            by_cases g2 : 4096 < x
            · have HD : Hid (decide (x = 0 ∨ 4096 < x ∨ x ≠ c ∨ F = true) = true) := by show _ = _; simp [g2]
              go_wp2_with fail
              go_meet
              case rel => exact ⟨by rw [HD.out], rfl⟩
            · by_cases g3 : x = c
              · have g3b : (x != c) = false := by simp [g3]
                have HD : Hid (decide (x = 0 ∨ 4096 < x ∨ x ≠ c ∨ F = true) = F) := by show _ = _; cases F <;> simp [g3] <;> omega
                have G3 := hidd g3
                clear g3
                go_wp2_with fail
                go_meet
                case rel => exact ⟨by rw [HD.out], rfl⟩
              · have g3b : (x != c) = true := by simp [g3]
                have HD : Hid (decide (x = 0 ∨ 4096 < x ∨ x ≠ c ∨ F = true) = true) := by show _ = _; simp [g3]
                go_wp2_with fail
                go_meet
                case rel => exact ⟨by rw [HD.out], rfl⟩
        case rest =>
          obtain ⟨rfl, hwc⟩ := hcut
          have hwc' := hwc.symm
          subst hwc'
          clear hwc
          by_cases hbad : x = 0 ∨ 4096 < x ∨ x ≠ c ∨ F = true
          · have hbt : decide (x = 0 ∨ 4096 < x ∨ x ≠ c ∨ F = true) = true := decide_eq_true hbad
            rw [hbt]
            have HNo : Hid (¬ ∃ ts, IsDict (c, S) ts) := fun ⟨ts, h⟩ => by
              obtain ⟨q1, q2, q3, q4⟩ := says_dict HSay.out h (HNe.out ts h)
              rw [HF.out] at q4
              rcases hbad with h5 | h5 | h5 | h5
              · exact q1 h5
              · omega
              · exact h5 q3
              · rw [h5] at q4; cases q4
            have hbw := HB2.out.size
            clear hbad hbt
            go_wp2_with fail
            go_ret2
            exact allNo HNo.out (HB2.out.alloc (by omega) _)
          · have hbt : decide (x = 0 ∨ 4096 < x ∨ x ≠ c ∨ F = true) = false := decide_eq_false hbad
            rw [hbt]
            have hxp : 0 < x ∧ x ≤ 4096 ∧ x = c ∧ F = false := by
              refine ⟨?_, ?_, ?_, ?_⟩
              · have : x ≠ 0 := fun e => hbad (Or.inl e)
                omega
              · exact Int.not_lt.1 fun e => hbad (Or.inr (Or.inl e))
              · exact Classical.byContradiction fun e => hbad (Or.inr (Or.inr (Or.inl e)))
              · cases F
                · rfl
                · exact absurd (Or.inr (Or.inr (Or.inr rfl))) hbad
            obtain ⟨hxp1, hxp2, hxc, rfl⟩ := hxp
            clear hbad hbt
            have hv0 : valD D 0 = x := HXv.out hxp1
            have hr0 := HOk.out.top 0 (by omega) (by omega)
            obtain ⟨f, hf⟩ : ∃ f, S.length + 66 = f := ⟨_, rfl⟩
            have hcl := HOk.out.count_len f 0 (by omega) (by omega) (by omega) (by omega)
            obtain ⟨L, hL⟩ : ∃ L, langF S f 0 = L := ⟨_, rfl⟩
            rw [hL] at hcl
            have hLl : L.length ≤ 4096 := by omega
            have HBt : Hid (Below w.heap.size w ((w2.alloc (.cells #[] 5)).alloc (.cells #[] 9))) := (HB2.out.alloc HB2.out.size _).alloc (by have := HB2.out.size; simp; omega) _
            have hbw := HB2.out.size
            have HCt := hidd (terms_any (w0 := w) (aS := some ⟨gS, oS, none⟩) (cS := cap) (c := c) (by omega) HS.out HOk.out f 0 w2.heap.size 0 [] [] (.slice (some ⟨w2.heap.size + 1, 0, none⟩) 0 0) ((w2.alloc (.cells #[] 5)).alloc (.cells #[] 9)) (by omega) (by omega) (by omega) HBt.out (fun t ht => by simp at ht) (by simp; omega) (by simp; omega) (own_mono (by have h9 := own_empty (w2.alloc (.cells #[] 5)) 9; simpa [tCells] using h9) (by omega)) (by simp) (by simp [Value.ownBlock]) (by rw [hL]; simpa using hLl))
            have eL : ([] : List Tx) ++ L.map (([] : Tx) ++ ·) = L := by simp
            rw [hL, eL] at HCt
            have HL := hidd hL
            have Hf := hidd hf
            have Hbx3 := hidd (blko Hbx2.out (((Below.refl w2.heap.size w2).alloc (Nat.le_refl _) (.cells #[] 5)).alloc (by simp) (.cells #[] 9)))
            have hzw2 : w.heap.size < w2.heap.size := (Array.getElem?_eq_some_iff.1 Hbx2.out).1
            clear hL hf eL hcl hv0 hr0 HXv HSay
            have Hxc := hidd hxc
            clear hxc
            go_wp2_with fail
            refine HCt.out.mono ?_
            rintro e w4 ⟨v, rfl, hown4, hv4, hgr4⟩
            obtain ⟨gT, cT, rfl, hgTb, hgT⟩ := (own_cases hown4).resolve_left (fun h => hv4 h.1)
            have HO4 := hidd hown4
            have HB4 : Hid (Below w.heap.size w w4) := HBt.out.grown hgr4.1 HBt.out.size (fun k h => by simp [Value.ownBlock] at h; omega)
            have Hbx4 : Hid (w4.heap[w.heap.size]? = some (.cells #[.int .i64 c, .slice (some ⟨gS, oS, none⟩) S.length cap] 27)) := (hgr4.1.block w.heap.size (by simp; omega) (fun h => by simp [Value.ownBlock] at h; omega)).trans Hbx3.out
            have hzw4 : w.heap.size < w4.heap.size := (Array.getElem?_eq_some_iff.1 Hbx4.out).1
            clear hown4 hv4 hgr4 HCt HBt Hbx3 Hbx2 e0 e1 c0
            have HTx : Hid (∀ j, j < L.length → w4.cell? ⟨gT, j, none⟩ = some (.string ⟨(L.getD j []).toArray⟩)) := fun j hj => (HO4.out.cellAt j (by omega)).trans (by simp [tCells, txV, hj])
            dsimp only
            go_wp2_with fail
            go_loopw [8] (fun kv wr => ∃ (i q : Nat), i ≤ L.length ∧ kv = .int .i64 (i : Int) ∧ upTo L i ∧ wr = w4.drewN q) (fun kv _ => L.length - (intOf kv).toNat)
            case atStart => exact ⟨0, 0, Nat.zero_le _, rfl, upTo_zero L, rfl⟩
            case round =>
              obtain ⟨i, q, hi, rfl, hup, rfl⟩ := hrel
              have HUp := hidd hup
              clear hup
              by_cases hlt : i < L.length
              · have hltz : (i : Int) < (L.length : Int) := by omega
                have t1 := HTx.out i hlt
                obtain ⟨ti, hti⟩ : ∃ ti, L.getD i [] = ti := ⟨_, rfl⟩
                rw [hti] at t1
                have Hti := hidd hti
                have hsl : (⟨ti.toArray⟩ : ByteArray).size = ti.length := by rw [Lib.size_eq]
                clear hti
                go_wp2_with fail
                go_cut [112] (fun cv wy => ∃ B : Bool, cv = .bool B ∧ (B = true ↔ ¬ (ti.length ≤ 64 ∧ (0 < i → ltT (L.getD (i - 1) []) ti = true))) ∧ ∃ q', wy = w4.drewN q')
                case first =>
                  by_cases g1 : 64 < ti.length
                  · have g1z : (ti.length : Int) > 64 := by omega
                    go_quiet (fail)
                    go_wp2_with fail
                    go_meet
                    case rel => exact ⟨true, rfl, ⟨fun _ h => by omega, fun _ => rfl⟩, q + nq, by first | rfl | simp [World.drewN, Nat.add_assoc]⟩
                  · have g1z : ¬ (ti.length : Int) > 64 := by omega
                    by_cases g2 : i = 0
                    · have g2z : ¬ (0 < i) := by omega
                      have G2 := hidd g2
                      clear g2
                      go_quiet (fail)
                      go_wp2_with fail
                      go_meet
                      case rel => exact ⟨false, rfl, ⟨fun h => (by cases h), fun h => absurd ⟨by omega, fun h => (by have := G2.out; omega)⟩ h⟩, q + nq, by first | rfl | simp [World.drewN, Nat.add_assoc]⟩
                    · have g2z : 0 < i := by omega
                      have t2 := HTx.out (i - 1) (by omega)
                      obtain ⟨tp, htp⟩ : ∃ tp, L.getD (i - 1) [] = tp := ⟨_, rfl⟩
                      rw [htp] at t2
                      have Htp := hidd htp
                      have hpn : ((i : Int) - 1).toNat = i - 1 := by omega
                      have hp0 : ¬ ((i : Int) - 1 < 0) := by omega
                      have hp1 : (i : Int) - 1 < (L.length : Int) := by omega
                      clear htp g2
                      go_quiet (fail)
                      go_wp2_with fail
                      go_meet
                      case rel =>
                        refine ⟨_, rfl, ?_, q + nq, by first | rfl | simp [World.drewN, Nat.add_assoc]⟩
                        rw [le_lt, Htp.out]
                        cases h5 : ltT tp ti
                        · simp [g2z]
                        · simp [g2z]
                          omega
                case rest =>
                  obtain ⟨B, rfl, hB, q', rfl⟩ := hcut
                  have HB := hidd hB
                  clear hB
                  cases B with
                  | true =>
                    have HNo : Hid (¬ ∃ ts, IsDict (c, S) ts) := by
                      refine chk_not (f := f) (by have := Hf.out; omega) fun h => ?_
                      rw [HL.out] at h
                      refine HB.out.1 rfl ?_
                      rw [← Hti.out]
                      exact ⟨h.1 i hlt, fun h0 => h.2 i h0 hlt⟩
                    go_wp2_with fail
                    go_ret2
                    exact allNo HNo.out ((below_drewN HB4.out q').alloc (by simp; omega) _)
                  | false =>
                    have HU2 : Hid (upTo L (i + 1)) := by
                      have h5 : ti.length ≤ 64 ∧ (0 < i → ltT (L.getD (i - 1) []) ti = true) := Classical.byContradiction fun h => by have := HB.out.2 h; cases this
                      rw [← Hti.out] at h5
                      exact upTo_step HUp.out h5.1 h5.2
                    go_wp2_with fail
                    go_roundw
                    case rel => exact ⟨i + 1, q', by omega, by go_num, HU2.out, rfl⟩
                    case measure => simp [intOf]; omega
              · have hltz : ¬ (i : Int) < (L.length : Int) := by omega
                obtain rfl : i = L.length := by omega
                obtain ⟨wq, hwq⟩ : ∃ wq, w4.drewN q = wq := ⟨_, rfl⟩
                have HBq : Hid (Below w4.heap.size w4 wq) := by rw [← hwq]; exact below_drewN (Below.refl _ _) q
                try rw [hwq]
                clear hwq
                have HBd : Hid (∀ W, Below wq.heap.size wq W → Calls Try.prog 36 #[.slice (some ⟨gT, 0, none⟩) L.length cT] W fun e w' => BuildPost L W e w') := fun W hW => by
                  have hb := HBq.out.trans (hW.mono HBq.out.size)
                  refine build_any HMk.out L _ _ W hLl (upTo_rise HUp.out) (upTo_short HUp.out) (Or.inr ⟨gT, 0, rfl, Nat.lt_of_lt_of_le hgT hb.size, fun j hj => ?_⟩)
                  rw [Nat.zero_add]
                  exact (hb.cell (p := ⟨gT, j, none⟩) hgT).trans (HTx.out j hj)
                have HSd : Hid (∀ W, Below wq.heap.size wq W → ∀ (ord : List (List Tx)) (aB : Option Addr) (kB : Nat), HoldS W aB (dictOf L ord).2 → ord.length ≤ 300000 → Calls Try.prog 85 #[.agg #[.int .i64 (L.length : Int), .slice aB ord.length kB], .agg #[.int .i64 c, .slice (some ⟨gS, oS, none⟩) S.length cap]] W fun e w' => e = .returned (.bool (decide (((L.length : Int), (dictOf L ord).2) = (c, S)))) ∧ Below W.heap.size W w') := fun W hW ord aB kB hH ho => by
                  have hb := HB4.out.trans ((HBq.out.trans (hW.mono HBq.out.size)).mono HB4.out.size)
                  have e1 : (dictOf L ord).2.length = ord.length := by simp [dictOf]
                  have h := sameDict_any (L.length : Int) c aB (some ⟨gS, oS, none⟩) kB cap (dictOf L ord).2 S W (by omega) hn (fun i => ?_) HA.out hH (HS.out.below (hb)) _ rfl
                  · rw [e1] at h; exact h
                  · rw [dictOf, arcsAt, List.getD_eq_getElem?_getD, List.getElem?_map]
                    cases ord[i]? with
                    | none => simp [st0]
                    | some M => have := labelsT_len M; simp [stOf]; omega
                have Hbx5 := hidd (blko Hbx4.out HBq.out)
                have z0 := blkc Hbx5.out 0
                have z1 := blkc Hbx5.out 1
                have hzwq : w.heap.size < wq.heap.size := (Array.getElem?_eq_some_iff.1 Hbx5.out).1
                have HZ : Hid (∀ W, Below wq.heap.size wq W → W.cell? ⟨w.heap.size, 0, none⟩ = some (.int .i64 c) ∧ W.cell? ⟨w.heap.size, 1, none⟩ = some (.slice (some ⟨gS, oS, none⟩) S.length cap)) := fun W hW => ⟨(hW.cell (p := ⟨w.heap.size, 0, none⟩) hzwq).trans z0, (hW.cell (p := ⟨w.heap.size, 1, none⟩) hzwq).trans z1⟩
                clear HTx
                go_wp2_with fail
                go_cut [118] (fun cv wy => ∃ ord, IsBfs nextT L ord ∧ cv = .bool (!(decide (((L.length : Int), (dictOf L ord).2) = (c, S)))) ∧ Below wq.heap.size wq wy)
                case first =>
                  go_region_with (first
                    | (go_at_call 36; refine (HBd.out _ (by first | exact below_drewN (Below.refl _ _) 1 | exact Below.refl _ _)).mono ?_; rintro e w5 ⟨ord, aB, kB, rfl, p1, p2, p3, p4⟩; have P1 := hidd p1; have P2 := hidd p2; have P3 : Hid (Below wq.heap.size wq w5) := (by first | exact (below_drewN (Below.refl _ _) 1).trans p3 | exact p3); have P4 := hidd p4; clear p1 p2 p3 p4; obtain ⟨y0, y1⟩ := HZ.out w5 P3.out)
                    | (go_at_call 85; refine (HSd.out _ P3.out _ _ _ P2.out P4.out).mono ?_; rintro e w6 ⟨rfl, hb6⟩; have HB6 := hidd (P3.out.trans (hb6.mono P3.out.size)); clear hb6))
                  all_goals
                    go_wp2_with fail
                    go_meet
                    exact ⟨_, P1.out, by simp, HB6.out⟩
                case rest =>
                  obtain ⟨ord, hord, rfl, hwy⟩ := hcut
                  have HWy := hidd (HB4.out.trans ((HBq.out.trans (hwy.mono HBq.out.size)).mono HB4.out.size))
                  have HO5 := hidd (own_below HO4.out (HBq.out.trans (hwy.mono HBq.out.size)))
                  have hwys := HWy.out.size
                  clear hwy z0 z1
                  by_cases hsame : ((L.length : Int), (dictOf L ord).2) = (c, S)
                  · have hd : decide (((L.length : Int), (dictOf L ord).2) = (c, S)) = true := decide_eq_true hsame
                    rw [hd]
                    have HYes : Hid (IsDict (c, S) L) := by
                      have h5 := HL.out
                      rw [← h5] at hsame hord hLl
                      have h6 := HUp.out
                      rw [← h5] at h6
                      have h7 := same_ok (f := f) (by omega) HF.out hLl h6 hord hsame
                      rw [h5] at h7
                      exact h7
                    clear hsame hd
                    go_wp2_with fail
                    go_ret2
                    refine ⟨_, by rw [okD_true ⟨L, HYes.out⟩]; rfl, HWy.out, fun ts ht => ?_⟩
                    rw [ht.uniq HYes.out]
                    exact HO5.out
                  · have hd : decide (((L.length : Int), (dictOf L ord).2) = (c, S)) = false := decide_eq_false hsame
                    rw [hd]
                    have HNo : Hid (¬ ∃ ts, IsDict (c, S) ts) := by
                      have h5 := HL.out
                      rw [← h5] at hsame hord
                      exact same_not (f := f) (by have := Hf.out; omega) hord hsame
                    clear hsame hd
                    go_wp2_with fail
                    go_ret2
                    exact allNo HNo.out (HWy.out.alloc (by omega) _)
end Go.Proofs.Ytbkedgpligcicaa
