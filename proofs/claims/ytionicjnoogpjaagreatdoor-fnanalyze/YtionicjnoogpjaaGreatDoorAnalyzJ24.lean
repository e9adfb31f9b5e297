import Derived.Test.YtionicjnoogpjaaGreatDoorAnalyzJ04
import Derived.Test.YtionicjnoogpjaaGreatDoorAnalyzJ07
import Derived.Test.YtionicjnoogpjaaGreatDoorAnalyzJ13
import Derived.Test.YtionicjnoogpjaaGreatDoorAnalyzJ00
import Derived.Test.YtionicjnoogpjaaGreatDoorAnalyzJ19
import Derived.Lib.OthersKept
import Derived.Lib.AppendStr
import Derived.Test.YtionicjnoogpjaaGreatDoorAnalyzJ03
import Derived.Test.YtionicjnoogpjaaGreatDoorAnalyzJ05
import Derived.Test.YtionicjnoogpjaaGreatDoorAnalyzJ23
import Derived.Handy
import Derived.Test.YtionicjnoogpjaaGreatDoorAnalyzJ15
namespace Go.Proofs.YtionicjnoogpjaaGreatDoor
open Go Go.RowKit
set_option linter.unusedVariables false

theorem Tryz.infoU8 : (Tryz.prog.info? 5).map (fun i => (i.zero, i.size, i.bytes)) = some (some (.int .u8 0), 1, 1) := by kernel_rfl
theorem byte_cell (r : Int) (h0 : 0 ≤ r) (h1 : r ≤ 255) : Lib.byteCells [UInt8.ofNat r.toNat] = [.int .u8 r] := by
  have := byte_back r h0 h1
  show [Value.int .u8 ((UInt8.ofNat r.toNat).toNat : Int)] = _
  rw [this]
theorem pad_cell (q : List UInt8) (j : Nat) (hj : j < ((q ++ [48, 48, 48]).take 4).length) : (Lib.byteCells q ++ Lib.strCells ⟨#[48, 48, 48]⟩)[j]? = some (.int .u8 (((q ++ [48, 48, 48]).take 4)[j].toNat : Int)) := by
  have e : Lib.byteCells q ++ Lib.strCells ⟨#[48, 48, 48]⟩ = Lib.byteCells (q ++ [48, 48, 48]) := by rw [Lib.byteCells_append]; rfl
  have hl : j < (q ++ [48, 48, 48]).length := by rw [List.length_take] at hj; omega
  rw [e, Lib.byteCells, List.getElem?_map, List.getElem?_eq_getElem hl, List.getElem_take]
  rfl
set_option maxHeartbeats 4000000 in
set_option maxRecDepth 100000 in
theorem implPhone_some (s : ByteArray) (w : World) (hs : s.size ≤ 1048576) (hT : Tabs w) (hc : decCode s = 0) :
    Calls Tryz.prog 128 #[.string s] w fun e w' => e = .returned (.string (bs (phoneL (runes s)))) ∧ Below w.heap.size w w' := by
  obtain ⟨i0, hi, hz0, hz1, hz2⟩ := info_parts Tryz.infoU8
  have HT := hidd hT
  have HC := hidd hc
  have hsz := (dec_some s hc).2
  clear hT hc
  go_enter Tryz.func128, Tryz.ntmps128
  go_wp2_with fail
  refine (textCode_any s _ hs HT.out).mono ?_
  rintro e w1 ⟨rfl, hb1⟩
  rw [HC.out]
  have hit0 := hidd (World.iter_heap w1 s 0)
  have hb4 : Below w.heap.size w (w1.iter s 0) := hb1.alloc hb1.size _
  have hI : w.heap.size ≤ w1.heap.size := hb1.size
  clear hb1
  go_wp2_with fail
  generalize w1.iter s 0 = w4 at hit0 hb4 ⊢
  generalize w1.heap.size = B at *
  go_loopw [3, 4] (fun v d wr => ∃ (p f k : Nat) (q : List UInt8) (z : Int) (zb : Int), wr.ownsRow w.heap.size 5 1 v q.length (Lib.byteCells q) ∧ wr.heap[B]? = some (.stringIter s p) ∧ Below w.heap.size w wr ∧ (runes s).drop k = runesFrom s f p ∧ s.size ≤ p + f ∧ k ≤ (runes s).length ∧ PAt (runes s) k q z ∧ d = .int .u8 zb ∧ (q ≠ [] → zb = 48 + z)) (fun _ _ wr => s.size - wr.iterPos B)
  case atStart => exact ⟨0, s.size, 0, [], 0, 0, World.ownsRow_nil _ _ _ _, hit0.out, hb4, rfl, by omega, by omega, PAt.zero _, rfl, fun h => absurd rfl h⟩
  case round =>
    obtain ⟨p, f, k, q, z, zb, hown, hit, hbel, hdr, hf, hk, hat, rfl, hzb⟩ := hrel
    have hrl := runes_le s
    have hql := hat.len
    have HO := hidd hown
    have HA := hidd hat
    have HZ := hidd hzb
    have hzd := hat.last
    clear hown hat hzb hb4 hit0
    by_cases hlt : p < s.size
    · have hnx : ∀ ty, (Instr.next (.pointer (some ⟨B, 0, none⟩)) true ty).run Tryz.prog wr = _ := fun ty => Lib.run_next_any_at wr B s p ty hit hlt
      have hw := width_le s p hlt
      have hr := rune_le s p
      have HO2 := hidd (own_iterAt HO.out hit (p + (Utf8.decode s p).2))
      have hit2 := Lib.iterAt_heap wr B s p (p + (Utf8.decode s p).2) hit
      have hbel2 := Lib.below_iterAt hbel (k := B) hI s (p + (Utf8.decode s p).2)
      have Hst : Hid ((runes s).drop (k + 1) = runesFrom s (f - 1) (p + (Utf8.decode s p).2) ∧ k < (runes s).length ∧ (runes s).getD k 0 = ((Utf8.decode s p).1 : Int)) := by
        obtain ⟨g, rfl⟩ : ∃ g, f = g + 1 := ⟨f - 1, by omega⟩
        rw [runesFrom_step s g p hlt] at hdr
        exact drop_consP hdr
      have Hpos := hidd (iterPos_of hit)
      have Hit2 := hidd hit2
      have HB2 := hidd hbel2
      have hzw : w.heap.size ≤ (wr.iterAt B s (p + (Utf8.decode s p).2)).heap.size := hbel2.size
      have hzB : B < (wr.iterAt B s (p + (Utf8.decode s p).2)).heap.size := (Array.getElem?_eq_some_iff.1 hit2).1
      have HS : Hid (∀ q' d', pstep (q, z) (foldZ ((Utf8.decode s p).1 : Int)) = (q', d') → PAt (runes s) (k + 1) q' d') := by
        intro q' d' h
        exact HA.out.step Hst.out.2.1 (by rw [Hst.out.2.2]; exact h)
      clear hdr HO hit2 hbel2 hbel HA
      generalize (Utf8.decode s p).1 = r0 at *
      generalize (Utf8.decode s p).2 = n at *
      generalize wr.iterAt B s (p + n) = wi at *
      have hk1 : k + 1 ≤ (runes s).length := Hst.out.2.1
      go_wp2_with fail
      refine (implFold_any _ _).mono ?_
      rintro e w' ⟨rfl, hw'⟩
      obtain rfl := hw'.symm
      clear hw'
      generalize foldZ (r0 : Int) = r at *
      by_cases hin : 97 ≤ r ∧ r ≤ 122
      · obtain ⟨h97, h122⟩ := hin
        have HW : Hid ((decide ((97 : Int) ≤ r) && decide (r ≤ 122)) = true) := by show _ = _; rw [decide_eq_true h97, decide_eq_true h122]; rfl
        have hsd := sdig_bd r
        go_wp2_with fail
        refine (within_any _ _ _ _).mono ?_
        rintro e w' ⟨rfl, hw'⟩
        obtain rfl := hw'.symm
        clear hw'
        rw [HW.out]
        go_wp2_with fail
        refine (digit_any r _ h97 h122).mono ?_
        rintro e w' ⟨rfl, hw'⟩
        obtain rfl := hw'.symm
        clear hw'
        have hrc := own_cases HO2.out
        by_cases hq0 : q = []
        · subst hq0
          have HN := hidd (HS.out _ _ (ps_first z r h97 h122))
          rcases hrc with ⟨rfl, hl0⟩ | ⟨g, cap, rfl, hgb, hgl⟩
          · clear hl0
            go_wp2_with (at_builtin; refine wpList_append_own _ rfl _ _ 22 rfl w.heap.size 5 i0 (.int .u8 0) 1 1 Tryz.underlying22 hi hz0 hz1 hz2 rfl (by decide) _ _ _ rfl (HO2.out.alloc _) ⟨wi.heap.size, 0, none⟩ 1 1 [.int .u8 (r)] rfl rfl ?c1 ?c2 ?c3 ?c4 ?c5 ?_)
            case c1 =>
              intro j u hj
              match j, hj with
              | 0, hj => simp at hj; subst hj; simp [Addr.add]
            case c2 => intro u hu; simp at hu; subst hu; rfl
            case c3 => (first | (unfold maxLen; omega) | (unfold maxLen; simp))
            case c4 => (first | omega | simp)
            case c5 => simp; omega
            intro v' w5 hown' hgrow hne
            have R : Hid (w5.ownsRow w.heap.size 5 1 v' ([] ++ [UInt8.ofNat r.toNat]).length (Lib.byteCells ([] ++ [UInt8.ofNat r.toNat])) ∧ w5.heap[B]? = some (.stringIter s (p + n)) ∧ Below w.heap.size w w5) := by
              refine ⟨?_, ?_, (HB2.out.alloc hzw _).grown hgrow (by simp; omega) (own_block HO2.out)⟩
              · rw [List.length_append, Lib.byteCells_append, byte_cell (r) (by omega) (by omega)]
                exact hown'
              · rw [hgrow.block B (by simp; omega) (own_ne_iter HO2.out Hit2.out), Below.heap_alloc _ _ _ hzB]
                exact Hit2.out
            clear hown' hgrow HO2 Hit2 HB2
            go_wp2_with fail
            go_roundw
            case rel => exact ⟨p + n, f - 1, k + 1, [] ++ [UInt8.ofNat r.toNat], sdig r, _, R.out.1, R.out.2.1, R.out.2.2, Hst.out.1, by omega, hk1, HN.out, rfl, fun _ => rfl⟩
            case measure => rw [iterPos_of R.out.2.1, Hpos.out]; omega
          · clear hgb hgl
            go_wp2_with (at_builtin; refine wpList_append_own _ rfl _ _ 22 rfl w.heap.size 5 i0 (.int .u8 0) 1 1 Tryz.underlying22 hi hz0 hz1 hz2 rfl (by decide) _ _ _ rfl (HO2.out.alloc _) ⟨wi.heap.size, 0, none⟩ 1 1 [.int .u8 (r)] rfl rfl ?c1 ?c2 ?c3 ?c4 ?c5 ?_)
            case c1 =>
              intro j u hj
              match j, hj with
              | 0, hj => simp at hj; subst hj; simp [Addr.add]
            case c2 => intro u hu; simp at hu; subst hu; rfl
            case c3 => (first | (unfold maxLen; omega) | (unfold maxLen; simp))
            case c4 => (first | omega | simp)
            case c5 => simp; omega
            intro v' w5 hown' hgrow hne
            have R : Hid (w5.ownsRow w.heap.size 5 1 v' ([] ++ [UInt8.ofNat r.toNat]).length (Lib.byteCells ([] ++ [UInt8.ofNat r.toNat])) ∧ w5.heap[B]? = some (.stringIter s (p + n)) ∧ Below w.heap.size w w5) := by
              refine ⟨?_, ?_, (HB2.out.alloc hzw _).grown hgrow (by simp; omega) (own_block HO2.out)⟩
              · rw [List.length_append, Lib.byteCells_append, byte_cell (r) (by omega) (by omega)]
                exact hown'
              · rw [hgrow.block B (by simp; omega) (own_ne_iter HO2.out Hit2.out), Below.heap_alloc _ _ _ hzB]
                exact Hit2.out
            clear hown' hgrow HO2 Hit2 HB2
            go_wp2_with fail
            go_roundw
            case rel => exact ⟨p + n, f - 1, k + 1, [] ++ [UInt8.ofNat r.toNat], sdig r, _, R.out.1, R.out.2.1, R.out.2.2, Hst.out.1, by omega, hk1, HN.out, rfl, fun _ => rfl⟩
            case measure => rw [iterPos_of R.out.2.1, Hpos.out]; omega
        · have hq1 : 0 < q.length := List.length_pos_iff.2 hq0
          rcases hrc with ⟨rfl, hl0⟩ | ⟨g, cap, rfl, hgb, hgl⟩
          · omega
          · have hqz : ((q.length : Int) == 0) = false := beq_eq_false_iff_ne.2 (by omega)
            obtain rfl : zb = 48 + z := HZ.out hq0
            by_cases h1 : r = 104
            · have HN := hidd (HS.out _ _ (ps_mute q z r h97 h122 hq0 (Or.inl h1)))
              clear HS
              subst h1
              go_wp2_with fail
              go_roundw
              case rel => exact ⟨p + n, f - 1, k + 1, q, z, _, HO2.out, Hit2.out, HB2.out, Hst.out.1, by omega, hk1, HN.out, rfl, fun _ => rfl⟩
              case measure => rw [iterPos_of Hit2.out, Hpos.out]; omega
            have h1b : (r == 104) = false := beq_eq_false_iff_ne.2 h1
            by_cases h2 : r = 119
            · have HN := hidd (HS.out _ _ (ps_mute q z r h97 h122 hq0 (Or.inr h2)))
              clear HS
              subst h2
              go_wp2_with fail
              go_roundw
              case rel => exact ⟨p + n, f - 1, k + 1, q, z, _, HO2.out, Hit2.out, HB2.out, Hst.out.1, by omega, hk1, HN.out, rfl, fun _ => rfl⟩
              case measure => rw [iterPos_of Hit2.out, Hpos.out]; omega
            have h2b : (r == 119) = false := beq_eq_false_iff_ne.2 h2
            by_cases hd : sdig r = 0 ∨ sdig r = z
            · have HN := hidd (HS.out _ _ (ps_same q z r h97 h122 hq0 (by omega) hd))
              clear HS
              by_cases hd0 : sdig r = 0
              · have HN0 : Hid (PAt (runes s) (k + 1) q 0) := by have h := HN.out; rw [hd0] at h; exact h
                clear hd HN
                go_wp2_with fail
                go_roundw
                case rel => exact ⟨p + n, f - 1, k + 1, q, 0, _, HO2.out, Hit2.out, HB2.out, Hst.out.1, by omega, hk1, HN0.out, rfl, fun _ => rfl⟩
                case measure => rw [iterPos_of Hit2.out, Hpos.out]; omega
              · have hdz := hd.resolve_left hd0
                clear hd
                generalize sdig r = d at *
                subst hdz
                have hdb : ((48 + d : Int) == 48) = false := beq_eq_false_iff_ne.2 (by omega)
                have hdn : ((48 + d : Int) != 48) = true := bne_iff_ne.2 (by omega)
                go_wp2_with fail
                go_roundw
                case rel => exact ⟨p + n, f - 1, k + 1, q, d, _, HO2.out, Hit2.out, HB2.out, Hst.out.1, by omega, hk1, HN.out, rfl, fun _ => rfl⟩
                case measure => rw [iterPos_of Hit2.out, Hpos.out]; omega
            · have HN := hidd (HS.out _ _ (ps_new q z r h97 h122 hq0 (by omega) (by omega) (by omega)))
              clear HS
              generalize sdig r = d at *
              have hdn : ((48 + d : Int) != 48) = true := bne_iff_ne.2 (by omega)
              have hdm : ((48 + d : Int) != 48 + z) = true := bne_iff_ne.2 (by omega)
              clear hd
              go_wp2_with (at_builtin; refine wpList_append_own _ rfl _ _ 22 rfl w.heap.size 5 i0 (.int .u8 0) 1 1 Tryz.underlying22 hi hz0 hz1 hz2 rfl (by decide) _ _ _ rfl (HO2.out.alloc _) ⟨wi.heap.size, 0, none⟩ 1 1 [.int .u8 (48 + d)] rfl rfl ?c1 ?c2 ?c3 ?c4 ?c5 ?_)
              case c1 =>
                intro j u hj
                match j, hj with
                | 0, hj => simp at hj; subst hj; simp [Addr.add]
              case c2 => intro u hu; simp at hu; subst hu; rfl
              case c3 => (first | (unfold maxLen; omega) | (unfold maxLen; simp))
              case c4 => (first | omega | simp)
              case c5 => simp; omega
              intro v' w5 hown' hgrow hne
              have R : Hid (w5.ownsRow w.heap.size 5 1 v' (q ++ [UInt8.ofNat (48 + d).toNat]).length (Lib.byteCells (q ++ [UInt8.ofNat (48 + d).toNat])) ∧ w5.heap[B]? = some (.stringIter s (p + n)) ∧ Below w.heap.size w w5) := by
                refine ⟨?_, ?_, (HB2.out.alloc hzw _).grown hgrow (by simp; omega) (own_block HO2.out)⟩
                · rw [List.length_append, Lib.byteCells_append, byte_cell (48 + d) (by omega) (by omega)]
                  exact hown'
                · rw [hgrow.block B (by simp; omega) (own_ne_iter HO2.out Hit2.out), Below.heap_alloc _ _ _ hzB]
                  exact Hit2.out
              clear hown' hgrow HO2 Hit2 HB2
              go_wp2_with fail
              go_roundw
              case rel => exact ⟨p + n, f - 1, k + 1, q ++ [UInt8.ofNat (48 + d).toNat], d, _, R.out.1, R.out.2.1, R.out.2.2, Hst.out.1, by omega, hk1, HN.out, rfl, fun _ => rfl⟩
              case measure => rw [iterPos_of R.out.2.1, Hpos.out]; omega
      · have HW : Hid ((decide ((97 : Int) ≤ r) && decide (r ≤ 122)) = false) := by
          show _ = _
          by_cases h97 : 97 ≤ r
          · rw [decide_eq_false (p := r ≤ 122) (by omega), Bool.and_false]
          · rw [decide_eq_false h97, Bool.false_and]
        have HN := hidd (HS.out q z (ps_out q z r (by omega)))
        go_wp2_with fail
        refine (within_any _ _ _ _).mono ?_
        rintro e w' ⟨rfl, hw'⟩
        obtain rfl := hw'.symm
        clear hw'
        rw [HW.out]
        go_wp2_with fail
        go_roundw
        case rel => exact ⟨p + n, f - 1, k + 1, q, z, zb, HO2.out, Hit2.out, HB2.out, Hst.out.1, by omega, hk1, HN.out, rfl, HZ.out⟩
        case measure => rw [iterPos_of Hit2.out, Hpos.out]; omega
    · have hnx : ∀ ty, (Instr.next (.pointer (some ⟨B, 0, none⟩)) true ty).run Tryz.prog wr = _ := fun ty => Lib.run_next_end_at wr B s p ty hit hlt
      have HL : Hid (phoneL (runes s) = if q = [] then [] else (q ++ [48, 48, 48]).take 4) := by
        refine HA.out.done ?_
        intro hlt2
        rw [runesFrom_end s f p hlt] at hdr
        have := congrArg List.length hdr
        rw [List.length_drop] at this
        simp at this
        omega
      clear hdr hit
      by_cases hq0 : q = []
      · have HE : Hid (phoneL (runes s) = []) := by show _ = _; rw [HL.out, if_pos hq0]
        subst hq0
        rcases own_cases HO.out with ⟨rfl, hl0⟩ | ⟨g, cap, rfl, hgb, hgl⟩
        · go_wp2_with fail
          go_ret
          rw [HE.out]
          exact ⟨rfl, hbel⟩
        · go_wp2_with fail
          go_ret
          rw [HE.out]
          exact ⟨rfl, hbel⟩
      · have HE : Hid (phoneL (runes s) = (q ++ [48, 48, 48]).take 4) := by show _ = _; rw [HL.out, if_neg hq0]
        have hq1 : 0 < q.length := List.length_pos_iff.2 hq0
        rcases own_cases HO.out with ⟨rfl, hl0⟩ | ⟨g, cap, rfl, hgb, hgl⟩
        · omega
        · have hqz : ((q.length : Int) == 0) = false := beq_eq_false_iff_ne.2 (by omega)
          have hbs := hbel.size
          go_wp2_with (at_builtin; refine Lib.wpList_append_own_string _ rfl _ _ 22 9 rfl w.heap.size 5 i0 Tryz.underlying22 Tryz.underlying9 hi hz0 hz1 hz2 _ _ _ rfl HO.out ⟨#[48, 48, 48]⟩ rfl ?c3 ?c4 ?c5 ?_)
          case c3 => unfold maxLen; rw [show (⟨#[48, 48, 48]⟩ : ByteArray).size = 3 from rfl]; omega
          case c4 => rw [show (⟨#[48, 48, 48]⟩ : ByteArray).size = 3 from rfl]; omega
          case c5 => omega
          intro v' w5 hown'' hgrow hne
          have hown' : w5.ownsRow w.heap.size 5 1 v' (q.length + 3) (Lib.byteCells q ++ Lib.strCells ⟨#[48, 48, 48]⟩) := hown''
          clear hown''
          have HO5 := hidd hown'
          have HB5 : Hid (Below w.heap.size w w5) := hbel.grown hgrow hbs (own_block HO.out)
          have hrow := hown'.2
          clear hown' hgrow
          rcases hrow with ⟨h1, h2⟩ | ⟨g', cap', cur', h1, _, _, hcap, _⟩
          · omega
          · subst h1
            have hcap4 : 4 ≤ cap' := by omega
            have hcv : (convert 22 9 (.slice (some ⟨g', 0, none⟩) 4 cap')).run Tryz.prog w5 = .ok (.string (bs ((q ++ [48, 48, 48]).take 4))) w5 := by
              have h4 : ((q ++ [48, 48, 48]).take 4).length = 4 := by simp; omega
              have hc := run_convert_bytes_back (P := Tryz.prog) w5 22 9 5 ⟨g', 0, none⟩ cap' ((q ++ [48, 48, 48]).take 4) Tryz.underlying22 Tryz.underlying5 Tryz.underlying9 (fun j hj => by
                rw [add_head, HO5.out.cellAt j (by omega)]
                exact pad_cell q j hj)
              rw [h4] at hc
              exact hc
            clear HO5
            go_wp2_with fail
            go_ret
            rw [HE.out]
            exact ⟨rfl, HB5.out⟩
set_option maxHeartbeats 1000000 in
theorem implPhone_any (s : ByteArray) (w : World) (hs : s.size ≤ 1048576) (hT : Tabs w) :
    Calls Tryz.prog 128 #[.string s] w fun e w' => e = .returned (.string (bs (phoneL (decList s)))) ∧ Below w.heap.size w w' := by
  by_cases hc : decCode s = 0
  · rw [(dec_some s hc).1]
    exact implPhone_some s w hs hT hc
  · have hcn : (decCode s != 0) = true := by rw [bne_iff_ne]; exact hc
    have HL := hidd (dec_none s hc)
    have HT := hidd hT
    clear hc hT
    go_enter Tryz.func128, Tryz.ntmps128
    go_wp2_with fail
    refine (textCode_any s _ hs HT.out).mono ?_
    rintro e w1 ⟨rfl, hb1⟩
    generalize decCode s = c at *
    go_wp2_with fail
    go_ret
    rw [HL.out]
    exact ⟨rfl, hb1⟩
end Go.Proofs.YtionicjnoogpjaaGreatDoor

namespace Go.Proofs.YtionicjnoogpjaaGreatDoor
open Go Go.RowKit
set_option linter.unusedVariables false

theorem phoneIf_sound (y : List UInt8) : phoneIf true y = if (phoneT y == []) = true then y else phoneT y := by
  rw [phoneIf]
  cases h : (phoneT y == []) <;> simp
set_option maxHeartbeats 2000000 in
theorem retold_any (tx t' : ByteArray) (p0 p1 p2 : Int) (w : World) :
    Calls Tryz.prog 38 #[.agg #[.string tx, .int .i64 p0, .int .i64 p1, .int .i64 p2], .string t'] w fun e w' => e = .returned (.agg #[.string t', .int .i64 p0, .int .i64 p1, .int .i64 p2]) ∧ Below w.heap.size w w' := by
  have HBa : Hid (Below w.heap.size w (w.alloc (.cells #[.string t', .int .i64 p0, .int .i64 p1, .int .i64 p2] 35))) := (Below.refl _ _).alloc (Nat.le_refl _) _
  go_enter Tryz.func38, Tryz.ntmps38
  go_wp2_with fail
  go_returns
  exact ⟨rfl, HBa.out.alloc (by simp) _⟩
set_option maxHeartbeats 4000000 in
theorem soundSelf_any (y : List UInt8) (w : World) (hs : y.length ≤ 1048576) (hT : Tabs w) :
    Calls Tryz.prog 84 #[.string (bs y)] w fun e w' => e = .returned (.string (bs (phoneIf true y))) ∧ Below w.heap.size w w' := by
  have HP := hidd (phoneIf_sound y)
  go_enter Tryz.func84, Tryz.ntmps84
  go_wp2_with fail
  refine (implPhone_any (bs y) _ (by rw [bs_size]; exact hs) hT).mono ?_
  rintro e w1 ⟨rfl, hb1⟩
  rw [show phoneL (decList (bs y)) = phoneT y from rfl]
  generalize phoneT y = p at *
  cases hp : (p == [])
  · have he : (bs p).toList.isEmpty = false := by rw [emp_txt]; exact hp
    have HP2 : Hid (phoneIf true y = p) := by show _ = _; rw [HP.out, hp]; rfl
    go_wp2_with fail
    go_ret
    rw [HP2.out]
    exact ⟨rfl, hb1⟩
  · have he : (bs p).toList.isEmpty = true := by rw [emp_txt]; exact hp
    have HP2 : Hid (phoneIf true y = y) := by show _ = _; rw [HP.out, hp]; rfl
    go_wp2_with fail
    go_ret
    rw [HP2.out]
    exact ⟨rfl, hb1⟩
end Go.Proofs.YtionicjnoogpjaaGreatDoor

namespace Go.Proofs.YtionicjnoogpjaaGreatDoor
open Go Go.RowKit
set_option linter.unusedVariables false
set_option maxRecDepth 100000

/-- What is written into a row of one's own keeps what the chain keeps. -/
theorem OwnX.step {wc W w' : World} {X : Nat → Prop} {v : Value} {l : List Tk} (ho : OwnX wc X W v l) (hb : But X wc W) (hw : But (fun b => v.ownBlock = some b) W w') : But X wc w' :=
  hb.trans hw (fun _ _ h => h) fun i hi h => by
    rcases ho.2 i h with h' | h'
    · exact h'
    · omega
def szT (N : Nat) (l : List Tk) : Prop := l.length ≤ N ∧ ∀ k, k < l.length → (l.getD k tk0).1.length ≤ 1048576
theorem eachStep {wc : World} {X : Nat → Prop} {B : Nat} (h : FuncId) (T : List UInt8 → List UInt8) (Q : List UInt8 → Prop)
    (hB : wc.heap[B]? = some (.cells #[.func (.func h) #[] #[]] 66)) (hX : ¬ X B)
    (eg : ∀ args w, (callFunc h args).run Tryz.prog w = .ok (.enter h args) w)
    (hC : ∀ (W : World) (t : List UInt8), But X wc W → Q t → Calls Tryz.prog h #[.string (bs t)] W fun e w' => e = .returned (.string (bs (T t))) ∧ Below W.heap.size W w') :
    StepC 120 #[] #[.pointer (some ⟨B, 0, none⟩)] wc X (fun l => l.length ≤ 1048576 ∧ ∀ k, k < l.length → Q (l.getD k tk0).1) (fun l => (mapTx T l, 0)) := by
  intro W v l hb ho hP
  have hBl : B < wc.heap.size := (Array.getElem?_eq_some_iff.1 hB).1
  refine (eachText1_any h T Q 0 B v l W ho.1 hP.1 hP.2 ((hb.block B hBl hX).trans hB) (fun e => ?_) eg fun W' t hW hq => hC W' t (ho.step hb hW) hq).mono ?_
  · rcases ho.2 B e with h' | h'
    · exact hX h'
    · omega
  · rintro e w' ⟨rfl, h1, h2⟩
    exact ⟨v, rfl, ⟨h1, ho.2⟩, ho.step hb h2⟩
set_option maxHeartbeats 4000000 in
theorem longStep {wc : World} {X : Nat → Prop} : StepC 86 #[] #[] wc X (szT 1048576) (fun l => (l.filter fun x => !decide (64 < x.1.length), 0)) := by
  intro W v l hb ho hP
  have HD := hidd (deleteFunc_any 130 #[] (fun x => decide (64 < x.1.length)) 0 v l W ho.1 hP.1 hP.2 Tryz.call130 (fun W' x _ hx => isLong_any x W' hx))
  have HS : Hid (∀ w', But (fun b => v.ownBlock = some b) W w' → But X wc w') := fun w' h => ho.step hb h
  have HO := hidd ho.2
  clear ho hb hP
  show Calls Tryz.prog 86 #[v] W _
  go_enter Tryz.func86, Tryz.ntmps86
  go_wp2_with fail
  refine HD.out.mono ?_
  rintro e w1 ⟨v1, rfl, h1, h2, h3⟩
  go_wp2_with fail
  go_ret2
  exact ⟨_, rfl, ⟨h1, fun b e => HO.out b (h2 ▸ e)⟩, HS.out _ h3⟩
set_option maxHeartbeats 4000000 in
theorem stopStep {wc : World} {X : Nat → Prop} (fo st ph : Bool) (aS : Option Addr) (cS : Nat) (vY : Value) (lo hi : Int) (stops : List (List UInt8)) (hn : stops.length ≤ 1048576) (hS : HoldS wc aS stops) (hX : stops = [] ∨ ∀ b off, aS = some ⟨b, off, none⟩ → ¬ X b) :
    StepC 81 #[.agg #[.bool fo, .bool st, .bool ph, .slice aS stops.length cS, vY, .int .i64 lo, .int .i64 hi]] #[] wc X (szT 1048576) (fun l => (l.filter fun x => !hasT stops x.1, 0)) := by
  intro W v l hb ho hP
  have hbx := heap_alloc_new W (.cells #[.bool fo, .bool st, .bool ph, .slice aS stops.length cS, vY, .int .i64 lo, .int .i64 hi] 26)
  have hb1 : Below W.heap.size W (W.alloc (.cells #[.bool fo, .bool st, .bool ph, .slice aS stops.length cS, vY, .int .i64 lo, .int .i64 hi] 26)) := (Below.refl _ _).alloc (Nat.le_refl _) _
  have hvl : ∀ b, v.ownBlock = some b → b < W.heap.size := fun b e => by
    rcases own4_cases ho.1 with ⟨rfl, _⟩ | ⟨g, c, rfl, _, h⟩
    · cases e
    · cases e; exact h
  have hold : ∀ W', But (fun b => v.ownBlock = some b) (W.alloc (.cells #[.bool fo, .bool st, .bool ph, .slice aS stops.length cS, vY, .int .i64 lo, .int .i64 hi] 26)) W' → HoldS W' aS stops := fun W' hW => by
    rcases hX with h0 | hX
    · exact Or.inl h0
    rcases hS with h0 | ⟨b', off', h1, h2, h3⟩
    · exact Or.inl h0
    · exact HoldS.but (HoldS.but (Or.inr ⟨b', off', h1, h2, h3⟩) hb hX) ((But.of_below hb1).trans hW (Z := fun b => v.ownBlock = some b) (fun _ _ h => h) (fun _ _ h => h)) fun b off e hv => by
        rcases ho.2 b hv with h' | h'
        · exact hX b off e h'
        · rw [e] at h1; cases h1; omega
  have HD := hidd (deleteFunc_any 122 #[.pointer (some ⟨W.heap.size, 0, none⟩)] (fun x => hasT stops x.1) 0 v l _ (own4_below ho.1 hb1) hP.1 hP.2 Tryz.call122 (fun W' x hW hx =>
    isStop_any fo st ph aS cS vY lo hi stops W.heap.size x W' hn (hold W' hW) ((hW.block _ (by simp) fun e => by have := hvl _ e; omega).trans hbx)))
  have HS : Hid (∀ w', But (fun b => v.ownBlock = some b) (W.alloc (.cells #[.bool fo, .bool st, .bool ph, .slice aS stops.length cS, vY, .int .i64 lo, .int .i64 hi] 26)) w' → But X wc w') := fun w' h => ho.step hb ((But.of_below hb1).trans h (fun _ _ h => h) (fun _ _ h => h))
  have HO := hidd ho.2
  clear ho hb hP hbx hb1 hold
  show Calls Tryz.prog 81 #[.agg #[.bool fo, .bool st, .bool ph, .slice aS stops.length cS, vY, .int .i64 lo, .int .i64 hi], v] W _
  go_enter Tryz.func81, Tryz.ntmps81
  go_wp2_with fail
  refine HD.out.mono ?_
  rintro e w1 ⟨v1, rfl, h1, h2, h3⟩
  go_wp2_with fail
  go_ret2
  exact ⟨_, rfl, ⟨h1, fun b e => HO.out b (h2 ▸ e)⟩, HS.out _ h3⟩
end Go.Proofs.YtionicjnoogpjaaGreatDoor
