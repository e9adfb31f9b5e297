import Derived.Test.YtecbjhakkebdmadDoorGap
import Derived.Test.YtecbjhakkebdmadDoorEncN
import Derived.Test.YtecbjhakkebdmadDoorDecI
import Derived.Test.YtecbjhakkebdmadDoorFoldTI
import Derived.Test.YtecbjhakkebdmadDoorBrkW
import Derived.Test.YtecbjhakkebdmadDoorBrkT
import Derived.Test.YtecbjhakkebdmadDoorSrc4
import Derived.BigQuiet
import Derived.Deep.QuietTactic
import Derived.Deep.RegionHeld3
namespace Go.Proofs.YtecbjhakkebdmadDoor
open Go Go.RowKit
set_option linter.unusedVariables false

theorem extract_all (s : ByteArray) : s.extract 0 s.size = s := by
  rw [bytes_ext (s.extract 0 s.size) s.data.toList (by rw [Lib.extract_data, List.drop_zero, List.take_of_length_le (by rw [data_len]; omega)])]
theorem toks_cell (L : List Tk) (k j : Nat) (hk : k < L.length) (hj : j < 4) : (toksCells L)[k * 4 + j]? = (tokCells L[k])[j]? := by
  induction L generalizing k with
  | nil => simp at hk
  | cons x t ih =>
    cases k with
    | zero => simp only [toksCells, List.flatMap_cons, Nat.zero_mul, Nat.zero_add, List.getElem_cons_zero]; rw [List.getElem?_append_left (by simp [tokCells]; omega)]
    | succ k =>
      simp only [toksCells, List.flatMap_cons, List.getElem_cons_succ]
      rw [List.getElem?_append_right (by simp [tokCells]; omega)]
      have e : (k + 1) * 4 + j - (tokCells x).length = k * 4 + j := by simp [tokCells]; omega
      rw [e]
      exact ih k (by simp at hk; omega)
theorem tok_cells {w w' : World} {base g cap : Nat} {L : List Tk} (h : w.ownsRow base 34 4 (.slice (some ⟨g, 0, none⟩) L.length cap) L.length (toksCells L)) (hgl : g < w.heap.size) (hb : Below w.heap.size w w')
    (k : Nat) (hk : k < L.length) {T : List UInt8} {ps F E : Nat} (he : L[k] = (T, ps, F, E)) :
    w'.cell? ⟨g, k * 4, none⟩ = some (.string ⟨T.toArray⟩) ∧ w'.cell? ⟨g, k * 4 + 1, none⟩ = some (.int .i64 ps) ∧ w'.cell? ⟨g, k * 4 + 2, none⟩ = some (.int .i64 F) ∧ w'.cell? ⟨g, k * 4 + 3, none⟩ = some (.int .i64 E) := by
  have hc : ∀ j, j < 4 → w'.cell? ⟨g, k * 4 + j, none⟩ = (tokCells L[k])[j]? := fun j hj => by
    rw [hb.cell (p := ⟨g, k * 4 + j, none⟩) hgl, h.cellAt (k * 4 + j) (by omega)]
    exact toks_cell L k j hk hj
  rw [he] at hc
  exact ⟨hc 0 (by omega), hc 1 (by omega), hc 2 (by omega), hc 3 (by omega)⟩

set_option maxHeartbeats 4000000 in
set_option maxRecDepth 100000 in
theorem textLaw_any (ao : Option Addr) (n cap : Nat) (w : World) (hm : n ≤ maxLen) (hc : CodeIn w ao n) (hT : Tabs w) :
    Calls Tryd.prog 3 #[.slice ao n cap] w fun e w' => e = .returned (.bool true) ∧ Below w.heap.size w w' := by
  have HT := hidd hT
  clear hT
  by_cases hlong : 1048576 < n
  · have hlz : (1048576 : Int) < (n : Int) := by omega
    clear hc
    go_enter Tryd.func3, Tryd.ntmps3
    go_wp2
    go_ret
    exact ⟨rfl, Below.refl _ _⟩
  · have hlz : ¬ (1048576 : Int) < (n : Int) := by omega
    have HC := hidd hc
    clear hc
    go_enter Tryd.func3, Tryd.ntmps3
    go_wp2_with fail
    refine (drawBreak_any ao n cap _ (by omega) HC.out).mono ?_
    rintro e w1 ⟨s, rfl, hsz, hb1⟩
    have HB1 := hidd hb1
    clear hb1 HC
    go_wp2_with fail
    refine (implDecode_any s _ (by omega) (HT.out.below HB1.out)).mono ?_
    rintro e w2 ⟨v2, rfl, hown2, hb2⟩
    have HO2 := hidd hown2
    have HB2 := hidd (HB1.out.trans (hb2.mono HB1.out.size))
    clear hown2 hb2 HB1
    go_wp2_with fail
    refine (specDecode_any s _ (by omega)).mono ?_
    rintro e w3 ⟨v3, rfl, hown3, hb3⟩
    have HO3 := hidd (own_below HO2.out hb3)
    have HB3 := hidd (HB2.out.trans (hb3.mono HB2.out.size))
    clear hown3 hb3 HO2 HB2
    by_cases hcode : decCode s = 0
    · have HL := hidd (dec_list s hcode)
      have HA := hidd (ans_back s hcode)
      have HF := hidd (fold_once s hcode)
      have HG := hidd (gaps_all s hcode)
      have HS := hidd (dec_ok s hcode).2
      have HCode := hidd hcode
      have hrl := runes_le s
      clear hcode
      rw [HL.out] at HO3
      rw [HCode.out]
      clear HL
      go_wp2_with fail
      refine (implEncode_own v2 _ (runes s) _ (by omega) HO3.out).mono ?_
      rintro e w4 ⟨rfl, hb4⟩
      have HB4 := hidd (HB3.out.trans (hb4.mono HB3.out.size))
      rw [HA.out.1, HA.out.2]
      clear hb4 HB3 HO3 HA
      go_wp2_with fail
      refine (implFoldText_any s _ (by omega) (HT.out.below HB4.out)).mono ?_
      rintro e w5 ⟨rfl, hb5⟩
      have HB5 := hidd (HB4.out.trans (hb5.mono HB4.out.size))
      clear hb5 HB4
      rw [HCode.out]
      have hfl : (⟨(foldText s).toArray⟩ : ByteArray).size ≤ 1048576 := by
        have := (dec_ok _ HF.out.1).2
        omega
      generalize hone : (⟨(foldText s).toArray⟩ : ByteArray) = one at *
      have Hone := hidd hone
      clear hone
      go_wp2_with fail
      refine (implFoldText_any one _ hfl (HT.out.below HB5.out)).mono ?_
      rintro e w6 ⟨rfl, hb6⟩
      have HB6 := hidd (HB5.out.trans (hb6.mono HB5.out.size))
      clear hb6 HB5
      rw [HF.out.1, HF.out.2, Hone.out]
      clear HF Hone
      go_wp2_with fail
      refine (implBreak_any s _ (by omega) (HT.out.below HB6.out)).mono ?_
      rintro e w7 ⟨v7, rfl, hown7, hb7⟩
      have HO7 := hidd hown7
      have HB7 := hidd (HB6.out.trans (hb7.mono HB6.out.size))
      clear hown7 hb7
      go_wp2_with fail
      refine (specBreak_any s _ (by omega)).mono ?_
      rintro e w8 ⟨v8, rfl, hown8, hb8⟩
      have HO8 := hidd (own4_below HO7.out hb8)
      have HB8 := hidd (HB7.out.trans (hb8.mono HB7.out.size))
      clear hown8 hb8 HO7
      by_cases hbc : brkCode s = 0
      · have HBL : Hid (brkList s = allToks s) := by
          show _ = _
          have h := hbc
          rw [brkCode, if_pos HCode.out] at h
          rw [brkList, if_pos HCode.out]
          by_cases h8 : 8192 < (allToks s).length
          · rw [if_pos h8] at h; omega
          · rw [if_neg h8]
        have HBC := hidd hbc
        rw [hbc]
        rw [HBL.out] at HO8
        obtain ⟨L, hL⟩ : ∃ L, L = allToks s := ⟨_, rfl⟩
        rw [← hL] at HO8 HG
        have hln : L.length ≤ 8192 := by
          have h := hbc
          rw [brkCode, if_pos HCode.out, ← hL] at h
          by_cases h8 : 8192 < L.length
          · rw [if_pos h8] at h; omega
          · omega
        clear hL HBL hbc HBC HCode
        rcases own4_cases HO8.out with ⟨rfl, hz⟩ | ⟨g, gcap, rfl, hbg, hgl⟩
        · obtain rfl : L = [] := List.eq_nil_of_length_eq_zero hz
          have HGR := hidd (gap_runes s 0 s.size HS.out HG.out)
          clear HO8 HG
          go_wp2
          refine wp_loop_rounds 1 ?_
          rw [rounds_succ]
          go_wp2_with fail
          rw [extract_all] at HGR
          refine (gap_any s _ (by omega) HGR.out.1 HGR.out.2).mono ?_
          rintro e w9 ⟨rfl, hb9⟩
          go_wp2
          go_ret
          exact ⟨rfl, HB8.out.trans (hb9.mono HB8.out.size)⟩
        · clear HB6 HB7
          go_wp2
          go_loopw [16, 17] (fun pl i wr => ∃ (k P : Nat), k ≤ L.length ∧ i = .int .i64 k ∧ pl = .int .i64 P ∧ P ≤ s.size ∧ Gaps s P k (L.drop k) ∧ Below w8.heap.size w8 wr) (fun _ i _ => L.length - (intOf i).toNat)
          case atStart => exact ⟨0, 0, Nat.zero_le _, rfl, rfl, Nat.zero_le _, by simpa using HG.out, Below.refl _ _⟩
          case round =>
            obtain ⟨k, P, hk, rfl, rfl, hP, hgaps, hbel⟩ := hrel
            by_cases hlt : k < L.length
            · obtain ⟨T, ps, F, E, het⟩ : ∃ T ps F E, L[k] = (T, ps, F, E) := ⟨_, _, _, _, rfl⟩
              have hd : L.drop k = (T, ps, F, E) :: L.drop (k + 1) := by rw [List.drop_eq_getElem_cons hlt, het]
              rw [hd] at hgaps
              obtain ⟨h1, h2, h3, h4, h5, h6⟩ := hgaps
              simp only at h1 h2 h3 h4 h5 h6
              have hPF : P ≤ F := h5.1
              obtain rfl := h1
              have HGR := hidd (gap_runes s P F HS.out h5)
              have HX := hidd h4
              have HN := hidd h6
              have HBL := hidd hbel
              obtain ⟨c0, c1, c2, c3⟩ := tok_cells HO8.out hgl hbel ps hlt het
              have hesz : (s.extract P F).size ≤ s.size := by rw [ByteArray.size_extract]; omega
              have hes : (s.extract P F).size ≤ 1048576 := by omega
              clear hd h4 h5 h6 hbel hesz het HO8
              rw [← HX.out] at c0
              go_wp2
              have q0 : (wr.alloc (Obj.cells #[Value.string (s.extract F E), Value.int IntKind.i64 ps, Value.int IntKind.i64 F, Value.int IntKind.i64 E] 34)).cell? ⟨wr.heap.size, 0, none⟩ = some (.string (s.extract F E)) := by rw [World.cell?_alloc_at (hn := rfl)]; rfl
              have q1 : (wr.alloc (Obj.cells #[Value.string (s.extract F E), Value.int IntKind.i64 ps, Value.int IntKind.i64 F, Value.int IntKind.i64 E] 34)).cell? ⟨wr.heap.size, 1, none⟩ = some (.int .i64 ps) := by rw [World.cell?_alloc_at (hn := rfl)]; rfl
              have q2 : (wr.alloc (Obj.cells #[Value.string (s.extract F E), Value.int IntKind.i64 ps, Value.int IntKind.i64 F, Value.int IntKind.i64 E] 34)).cell? ⟨wr.heap.size, 2, none⟩ = some (.int .i64 F) := by rw [World.cell?_alloc_at (hn := rfl)]; rfl
              have q3 : (wr.alloc (Obj.cells #[Value.string (s.extract F E), Value.int IntKind.i64 ps, Value.int IntKind.i64 F, Value.int IntKind.i64 E] 34)).cell? ⟨wr.heap.size, 3, none⟩ = some (.int .i64 E) := by rw [World.cell?_alloc_at (hn := rfl)]; rfl
              have hba : Hid (Below w8.heap.size w8 (wr.alloc (Obj.cells #[Value.string (s.extract F E), Value.int IntKind.i64 ps, Value.int IntKind.i64 F, Value.int IntKind.i64 E] 34))) := HBL.out.alloc HBL.out.size _
              have hlt2 : wr.heap.size < (wr.alloc (Obj.cells #[Value.string (s.extract F E), Value.int IntKind.i64 ps, Value.int IntKind.i64 F, Value.int IntKind.i64 E] 34)).heap.size := by simp
              generalize wr.alloc (Obj.cells #[Value.string (s.extract F E), Value.int IntKind.i64 ps, Value.int IntKind.i64 F, Value.int IntKind.i64 E] 34) = wa at *
              clear c0 c1 c2 c3 HBL
              generalize wr.heap.size = box at *
              have z0 : decide (F < P) = false := decide_eq_false (by omega)
              have z1 : decide (E ≤ F) = false := decide_eq_false (by omega)
              have z2 : decide (s.size < E) = false := decide_eq_false (by omega)
              have y1 : F ≤ E := by omega
              have y2 : F ≤ s.size := by omega
              have x0 : (0 : Int) ≤ (F : Int) := by omega
              have x1 : (F : Int) ≤ (E : Int) := by omega
              have x2 : (E : Int) ≤ (s.size : Int) := by omega
              have x3 : (F : Int) ≤ (s.size : Int) := by omega
              have x4 : (P : Int) ≤ (F : Int) := by omega
              have x5 : (0 : Int) ≤ (P : Int) := by omega
              have x6 : (0 : Int) ≤ (E : Int) := by omega
              go_region_held3 (fun w' => w'.cell? ⟨box, 0, none⟩ = some (.string (s.extract F E)) ∧ w'.cell? ⟨box, 1, none⟩ = some (.int .i64 ps) ∧ w'.cell? ⟨box, 2, none⟩ = some (.int .i64 F) ∧ w'.cell? ⟨box, 3, none⟩ = some (.int .i64 E))
                (first | go_keep | exact ⟨(hb9.cell (p := ⟨box, 0, none⟩) hlt2).trans q0, (hb9.cell (p := ⟨box, 1, none⟩) hlt2).trans q1, (hb9.cell (p := ⟨box, 2, none⟩) hlt2).trans q2, (hb9.cell (p := ⟨box, 3, none⟩) hlt2).trans q3⟩)
                ((go_at_call 11; refine (gap_any (s.extract P F) _ hes HGR.out.1 HGR.out.2).mono ?_; rintro e' w9 ⟨rfl, hb9⟩))
              have hbz : Hid (Below w8.heap.size w8 w9) := hba.out.drew.trans (hb9.mono hba.out.size)
              clear hb9 q0 q1 q2 q3 hba hlt2 x0 x1 x2 x3 x4 x5 x6 y1 y2 z0 z1 z2
              go_wp2
              trace_state
              go_roundw
              case rel => exact ⟨ps + 1, E, by omega, by go_num, rfl, h3, HN.out, hbz.out⟩
              case measure => simp [intOf]; omega
            · obtain rfl : k = L.length := by omega
              rw [List.drop_length] at hgaps
              have HGR := hidd (gap_runes s P s.size HS.out hgaps)
              have hesz : (s.extract P s.size).size ≤ s.size := by rw [ByteArray.size_extract]; omega
              have HBL := hidd hbel
              clear hgaps hbel
              go_wp2_with fail
              refine (gap_any (s.extract P s.size) _ (by omega) HGR.out.1 HGR.out.2).mono ?_
              rintro e w9 ⟨rfl, hb9⟩
              go_wp2
              go_ret
              have hb := HBL.out.trans (hb9.mono HBL.out.size)
              exact ⟨rfl, HB8.out.trans (hb.mono HB8.out.size)⟩
      · have hbn : (brkCode s != 0) = true := by rw [bne_iff_ne]; exact hbc
        generalize brkCode s = c at *
        clear hbc
        go_wp2
        go_ret
        exact ⟨rfl, HB8.out⟩
    · have hcn : (decCode s != 0) = true := by rw [bne_iff_ne]; exact hcode
      generalize decCode s = c at *
      clear hcode
      go_wp2
      go_ret
      exact ⟨rfl, HB3.out⟩
end Go.Proofs.YtecbjhakkebdmadDoor
