import Derived.Test.YtbkedgpligcicaaDictJ28
import Derived.Test.YtbkedgpligcicaaDictJ09
import Derived.Test.YtbkedgpligcicaaDictJ27
import Derived.Test.YtbkedgpligcicaaDictJ19
import Derived.Deep.RegionHeld3
import Derived.Deep.CutBlock
import Derived.Deep.DeepCutAuto
import Derived.Test.YtbkedgpligcicaaDictJ03
import Derived.Test.YtbkedgpligcicaaDictJ14
import Derived.Test.YtbkedgpligcicaaDictJ15
import Derived.Test.YtbkedgpligcicaaDictJ24
import Derived.Test.YtbkedgpligcicaaDictJ25
namespace Go.Proofs.Ytbkedgpligcicaa.Drw
open Go Go.RowKit
set_option linter.unusedVariables false
set_option maxRecDepth 100000
set_option linter.unusedSimpArgs false

set_option maxHeartbeats 1000000 in
theorem repeatC_any (t : ByteArray) (N : Nat) (w : World) (ht : t.size ≤ 16) (hN : N ≤ 100000) (h33 : (33 : UInt8) ∉ t.data.toList) :
    Calls Try.prog 35 #[.string t, .int .i64 (N : Int)] w fun e w' => ∃ r : ByteArray, e = .returned (.string r) ∧ r.size ≤ t.size * N ∧ (33 : UInt8) ∉ r.data.toList ∧ Below w.heap.size w w' := by
  obtain ⟨i0, hi, hz0, hz1, hz2⟩ := info_parts Try.info5
  go_enter Try.func35, Try.ntmps35
  go_wp2
  go_loopw [5, 6] (fun v i wr => ∃ (k : Nat) (L : List UInt8), k ≤ N ∧ i = .int .i64 (k : Int) ∧ (L.length ≤ t.size * k ∧ (33 : UInt8) ∉ L) ∧ wr.ownsRow w.heap.size 5 1 v L.length (Lib.byteCells L) ∧ Below w.heap.size w wr ∧ v ≠ .slice none 0 0) (fun _ i _ => N - (intOf i).toNat)
  case atStart => exact ⟨0, [], Nat.zero_le _, rfl, ⟨by simp, by simp⟩, own_empty w _, (Below.refl _ _).alloc (Nat.le_refl _) _, by simp⟩
  case round =>
    obtain ⟨k, L, hk, rfl, hL, hown, hbel, hnn⟩ := hrel
    have hL2 : L.length ≤ 16 * k := Nat.le_trans hL.1 (Nat.mul_le_mul_right k ht)
    have HL := hidd hL
    clear hL
    have HO := hidd hown
    have HB := hidd hbel
    have hzr := hbel.size
    by_cases hlt : k < N
    · clear hown hbel
      go_wp2_with (at_builtin; refine Lib.wpList_append_own_string _ rfl _ _ 22 9 rfl w.heap.size 5 i0 Try.underlying22 Try.underlying9 hi hz0 hz1 hz2 _ _ _ rfl HO.out t rfl ?c1 ?c2 hzr ?_)
      case c1 => unfold maxLen; omega
      case c2 => omega
      intro v' w2 hown' hgrow hne
      have R : Hid (w2.ownsRow w.heap.size 5 1 v' (L ++ t.data.toList).length (Lib.byteCells (L ++ t.data.toList)) ∧ Below w.heap.size w w2) := by
        refine ⟨?_, HB.out.grown hgrow hzr (own_block HO.out)⟩
        rw [List.length_append, ← Lib.size_eq, Lib.byteCells_append]
        exact hown'
      have hne' : Hid (v' ≠ .slice none 0 0) := hne
      clear hown' hgrow hne
      go_wp2
      go_roundw
      case rel => exact ⟨k + 1, L ++ t.data.toList, by omega, by go_num, ⟨by rw [List.length_append, ← Lib.size_eq, Nat.mul_succ]; exact Nat.add_le_add_right HL.out.1 _, fun hm => (List.mem_append.1 hm).elim HL.out.2 h33⟩, R.out.1, R.out.2, hne'.out⟩
      case measure => simp [intOf]; omega
    · rcases own_cases hown with ⟨rfl, h0⟩ | ⟨g, cap, rfl, hbg, hgl⟩
      · exact absurd rfl hnn
      · have hbs : BytesAtC wr g L := fun j hj => by rw [hown.cellAt j (by omega)]; exact bytes_atC L j hj
        have hcv := hbs.text L.length cap rfl
        clear hbs hown hbel
        go_wp2
        go_ret
        exact ⟨⟨L.toArray⟩, rfl, by rw [size_mk]; exact Nat.le_trans HL.out.1 (Nat.mul_le_mul_left _ hk), by simpa using HL.out.2, HB.out⟩

/-- The first cell of a row is written. -/
theorem own_set0 {w : World} {base e g n cap : Nat} {xs : List Value} {u : Value} (h : w.ownsRow base e 1 (.slice (some ⟨g, 0, none⟩) n cap) n xs) : (w.setCell ⟨g, 0, none⟩ u).ownsRow base e 1 (.slice (some ⟨g, 0, none⟩) n cap) n (xs.set 0 u) := by
  refine ⟨by rw [List.length_set]; exact h.1, ?_⟩
  rcases h.2 with ⟨h', _⟩ | ⟨g', c', cur, h1, h2, h3, h4, h5, h6, h7⟩
  · cases h'
  · simp only [Value.slice.injEq, Option.some.injEq, Addr.mk.injEq, and_true, true_and] at h1
    obtain ⟨rfl, rfl⟩ := h1
    refine Or.inr ⟨g, cap, cur.setIfInBounds 0 u, rfl, h2, blk_setk h3 0 u, h4, h5, by simpa using h6, ?_⟩
    rw [← h7, Array.toList_setIfInBounds, List.take_set]
/-- What a dictionary is drawn of. -/
def DrawnD (w : World) (e : Ending) (w' : World) : Prop :=
  ∃ (v : Value) (ts : List Tx), e = .returned v ∧ ts.length ≤ 61 ∧ (∀ t ∈ ts, TxC 65 t) ∧ w'.ownsRow w.heap.size 9 1 v ts.length (ts.map mkTx) ∧ v ≠ .slice none 0 0 ∧ Below w.heap.size w w'
theorem TxC.mono {m m' : Nat} {t : Tx} (h : TxC m t) (hm : m ≤ m') : TxC m' t := ⟨Nat.le_trans h.1 hm, h.2⟩
theorem strC_of {m : Nat} {r : ByteArray} (h : r.size ≤ m) (h33 : (33 : UInt8) ∉ r.data.toList) : strC m (.string r) = true := by
  simp only [strC, Bool.and_eq_true, decide_eq_true_eq]
  refine ⟨h, List.all_eq_true.2 fun c hc => ?_⟩
  simp
  rintro rfl
  exact h33 hc
theorem table5 {m : Nat} {r : ByteArray} (h : strC m (.string r) = true) (hm : 2 ≤ m) : (#[Value.string ⟨#[]⟩, .string ⟨#[97]⟩, .string ⟨#[122, 122]⟩, .string r, .string ⟨#[255]⟩] : Array Value).all (strC m) = true := by
  have e0 : strC m (.string ⟨#[]⟩) = true := strC_of (Nat.le_trans (by decide) hm) (by decide)
  have e1 : strC m (.string ⟨#[97]⟩) = true := strC_of (Nat.le_trans (by decide) hm) (by decide)
  have e2 : strC m (.string ⟨#[122, 122]⟩) = true := strC_of (Nat.le_trans (by decide) hm) (by decide)
  have e3 : strC m (.string ⟨#[255]⟩) = true := strC_of (Nat.le_trans (by decide) hm) (by decide)
  simp [e0, e1, e2, e3, h]
theorem below_grown {a b c : World} {B : Nat} (h : Below B a b) (k : b.grownBy c (some B)) (hB : B ≤ b.heap.size) : Below B a c := h.grown k hB (fun q e => by cases e; exact Nat.le_refl _)

set_option maxHeartbeats 8000000 in
theorem drawDict_any (ao : Option Addr) (n cap : Nat) (w : World) (hn : n ≤ 1048576) (hc : CodeIn w ao n) :
    Calls Try.prog 7 #[.slice ao n cap] w fun e w' => DrawnD w e w' := by
  obtain ⟨i0, hi0, hz0, hz1, hz2⟩ := info_parts Try.infoStr
  have HC := hidd hc
  clear hc
  go_enter Try.func7, Try.ntmps7
  go_wp2_with fail
  refine (source_any ao n cap _ hn).mono ?_
  rintro e w1 ⟨rfl, hs1, hg1⟩
  obtain ⟨sd, hsd⟩ : ∃ sd : Int, (n : Int) % 1000 = sd := ⟨_, rfl⟩
  have hd0 : 0 ≤ sd := by omega
  have hd1 : sd < 2147483648 := by omega
  rw [hsd] at hs1
  clear hsd
  have HC1 := hidd (HC.out.code hg1)
  have HS1 := hidd hs1
  have HB1 : Hid (Below w.heap.size w w1) := (Below.refl _ _).grown hg1 (Nat.le_refl _) (fun q e => by cases e)
  have hz : w.heap.size < w1.heap.size := hs1.lt
  clear hs1 hg1
  dsimp only
  go_wp2_with fail
  refine (size_any w.heap.size ao n cap 0 sd _ hn HS1.out).mono ?_
  rintro e w' ⟨x, rfl, hx, hw'⟩
  obtain rfl := hw'.symm
  clear hw'
  dsimp only
  have hxz : (x : Int) ≤ 60 := by omega
  go_wp2_with fail
  refine (next_any w.heap.size ao n cap 0 sd _ _ hn ?n1 ?n2 (by omega) (by omega) hd0 hd1 HS1.out HC1.out).mono ?_
  case n1 => go_num
  case n2 => go_num
  rintro e w2 ⟨y, a2, sd2, rfl, hy0, hy1, ha2, ha3, hd2, hd3, hs2, hg2⟩
  obtain ⟨Y, rfl⟩ := Int.eq_ofNat_of_zero_le hy0
  have hY : Y ≤ 60 := by omega
  clear hy1
  have HS2 := hidd hs2
  have HC2 := hidd (HC1.out.kept hg2)
  have HB2 := hidd (below_grown HB1.out hg2 (by omega))
  have hz2' := hg2.size
  clear hs2 hg2 HC1 HS1 HB1
  dsimp only
  go_wp2_with fail
  refine (drawTerms_any w.heap.size ao n cap Y a2 sd2 _ hn hY (by omega) (by omega) hd2 hd3 HS2.out HC2.out).mono ?_
  rintro e w3 ⟨v, ts, a3, sd3, rfl, htl, ht20, hown, hnn, ha4, ha5, hd4, hd5, hs3, hg3⟩
  have HS3 := hidd hs3
  have HC3 := hidd (HC2.out.kept hg3)
  have HB3 := hidd (below_grown HB2.out hg3 (by omega))
  have HO3 := hidd hown
  have HT := hidd ht20
  have hz3 := hg3.size
  obtain ⟨gO, cO, rfl⟩ : ∃ g c, v = .slice (some ⟨g, 0, none⟩) ts.length c := by
    rcases own_cases hown with ⟨e, _⟩ | ⟨g, c, e, _, _⟩
    · exact absurd e hnn
    · exact ⟨g, c, e⟩
  have hgO := own_block hown gO rfl
  clear hs3 hg3 hown hnn ht20 HC2 HS2 HB2
  dsimp only
  go_wp2_with fail
  refine (next_any w.heap.size ao n cap a3 sd3 16 _ hn (by omega) (by omega) (by omega) (by omega) hd4 hd5 HS3.out HC3.out).mono ?_
  rintro e w4 ⟨z, a4, sd4, rfl, hz0', hz1', ha6, ha7, hd6, hd7, hs4, hg4⟩
  have HS4 := hidd hs4
  have HC4 := hidd (HC3.out.kept hg4)
  have HB4 := hidd (below_grown HB3.out hg4 (by omega))
  have HO4 : Hid (w4.ownsRow w2.heap.size 9 1 (.slice (some ⟨gO, 0, none⟩) ts.length cO) ts.length (ts.map mkTx)) := HO3.out.kept hg4 (Or.inr (by simp [Value.ownBlock]; omega))
  have hz4 := hg4.size
  clear hs4 hg4 HC3 HS3 HB3 HO3
  dsimp only
  by_cases hzz : z = 0
  · subst hzz
    go_wp2_with fail
    refine (next_any w.heap.size ao n cap a4 sd4 2 _ hn (by omega) (by omega) (by omega) (by omega) hd6 hd7 HS4.out HC4.out).mono ?_
    rintro e w5 ⟨y, a5, sd5, rfl, hy0, hy1, ha8, ha9, hd8, hd9, hs5, hg5⟩
    obtain ⟨Z, rfl⟩ := Int.eq_ofNat_of_zero_le hy0
    have HS5 := hidd hs5
    have HC5 := hidd (HC4.out.kept hg5)
    have HB5 := hidd (below_grown HB4.out hg5 (by omega))
    have HO5 : Hid (w5.ownsRow w2.heap.size 9 1 (.slice (some ⟨gO, 0, none⟩) ts.length cO) ts.length (ts.map mkTx)) := HO4.out.kept hg5 (Or.inr (by simp [Value.ownBlock]; omega))
    have hz5 := hg5.size
    clear hs5 hg5 HC4 HS4 HB4 HO4
    dsimp only
    have hZz : (Z : Int) ≤ 1 := by omega
    go_wp2_with fail
    have hZe : (64 : Int) + (Z : Int) = ((64 + Z : Nat) : Int) := by omega
    rw [hZe]
    refine (repeatC_any ⟨#[122]⟩ (64 + Z) _ (by decide) (by omega) (by decide)).mono ?_
    rintro e w6 ⟨r, rfl, hr1, hr2, hb6⟩
    have hr3 : strC 65 (.string r) = true := strC_of (by have e9 : (⟨#[122]⟩ : ByteArray).size = 1 := rfl
                                                         rw [e9] at hr1; omega) hr2
    have Hr3 := hidd hr3
    have hlt5 : w.heap.size < w5.heap.size := by omega
    have hg6 : w5.grownBy w6 (some w.heap.size) := ⟨hb6.os, hb6.tape, hb6.output, hb6.size, fun x hx _ => hb6.block x hx⟩
    have HB6 := hidd (below_grown HB5.out hg6 (by omega))
    have HC6 := hidd (HC5.out.kept hg6)
    have HS6 : Hid (SrcAt w6 w.heap.size (.slice ao n cap) a5 sd5) := by
      have h := HS5.out
      show SrcAt _ _ _ _ _
      unfold SrcAt at *
      rw [hb6.block _ hlt5]
      exact h
    have HO6 : Hid (w6.ownsRow w2.heap.size 9 1 (.slice (some ⟨gO, 0, none⟩) ts.length cO) ts.length (ts.map mkTx)) := own_below HO5.out hb6
    have hz6 := hb6.size
    have hlt6 : w.heap.size < w6.heap.size := by omega
    clear hr1 hr2 hr3 hb6 hg6 HC5 HS5 HB5 HO5 hZe
    dsimp only
    go_wp2_with fail
    refine (next_any w.heap.size ao n cap a5 sd5 5 _ hn (by omega) (by omega) (by omega) (by omega) hd8 hd9 (by exact HS6.out.alloc _) (by exact HC6.out.alloc _)).mono ?_
    rintro e w7 ⟨y, a7, sd7, rfl, hy2, hy3, _, _, _, _, hs7, hg7⟩
    obtain ⟨V, rfl⟩ := Int.eq_ofNat_of_zero_le hy2
    obtain ⟨q, hq, hqs⟩ := table_strC hg7 hlt6 65 (table5 Hr3.out (by omega)) V (by show V < 5; omega)
    have HB7 := hidd (below_grown (HB6.out.alloc (by omega) _) hg7 (by simp; omega))
    have HO7 : Hid (w7.ownsRow w2.heap.size 9 1 (.slice (some ⟨gO, 0, none⟩) ts.length cO) ts.length (ts.map mkTx)) := (HO6.out.alloc _).kept hg7 (Or.inr (by simp [Value.ownBlock]; omega))
    have hz7 : w6.heap.size + 1 ≤ w7.heap.size := by have := hg7.size; simpa using this
    have Hqs := hidd hqs
    clear hs7 hg7 HC6 HS6 HB6 HO6 hqs
    have hVz : (V : Int) < 5 := by omega
    dsimp only
    go_wp2_with (at_builtin; refine wpList_append_own_at _ rfl _ _ 23 rfl w2.heap.size 9 i0 (.string ⟨#[]⟩) 1 16 Try.underlying23 hi0 hz0 hz1 hz2 rfl (by decide) _ _ _ rfl (HO7.out.alloc _) ⟨w7.heap.size, 0, none⟩ 1 1 [.string q] rfl rfl ?c1 ?c2 ?c3 ?c4 ?c5 ?_)
    try case c1 =>
      intro j u hj
      match j, hj with
      | 0, hj => simp at hj; subst hj; simp [Addr.add]
    case c2 => first | rfl | (intro u hu; simp at hu; subst hu; rfl)
    case c3 => unfold maxLen; omega
    case c4 => omega
    case c5 => first | omega | (simp; omega)
    intro v8 w8 hown8 hgrow8 hne8 hat8
    have HO8 := hidd hown8
    have HB8 : Hid (Below w.heap.size w w8) := (HB7.out.alloc (by omega) _).grown hgrow8 (by simp; omega) (fun k hk => by simp [Value.ownBlock] at hk; omega)
    have hne : v8 ≠ .slice none 0 0 := by
      rcases own_cases hown8 with ⟨_, e⟩ | ⟨g, c, e, _, _⟩
      · omega
      · rw [e]; simp
    have Hne := hidd hne
    clear hown8 hgrow8 hne8 hat8 hne
    go_wp2_with fail
    go_ret
    refine ⟨_, ts ++ [q.data.toList], rfl, by simp; omega, ?_, ?_, Hne.out, HB8.out⟩
    · intro t ht
      rcases List.mem_append.1 ht with h | h
      · exact (HT.out t h).mono (by omega)
      · rw [List.mem_singleton.1 h]; exact Hqs.out
    · have := own_mono HO8.out (show w.heap.size ≤ w2.heap.size by omega)
      simpa [mkTx] using this
  · by_cases hz1 : z = 1
    · subst hz1
      by_cases hl : 1 < ts.length
      · have hlz : (1 : Int) < (ts.length : Int) := by omega
        have hl0z : (0 : Int) < (ts.length : Int) := by omega
        have c1 : w4.cell? ⟨gO, 1, none⟩ = some (.string ⟨(ts.getD 1 []).toArray⟩) := by
          rw [HO4.out.cellAt 1 (by omega)]
          simp [mkTx, hl]
        have c0 : w4.cell? ⟨gO, 0, none⟩ = some (.string ⟨(ts.getD 0 []).toArray⟩) := by
          rw [HO4.out.cellAt 0 (by omega)]
          simp [mkTx, (by omega : 0 < ts.length)]
        have f0 : w4.frozen? ⟨gO, 0, none⟩ = false := by
          obtain ⟨_, cur, hcur⟩ := own_blk HO4.out rfl
          exact frozen_of_row w4 gO 0 _ _ hcur
        obtain ⟨M, hM⟩ : ∃ M, ts.length = M := ⟨_, rfl⟩
        go_wp2_with fail
        go_ret
        refine ⟨_, ts.set 0 (ts.getD 1 []), rfl, by simp; omega, ?_, ?_, by simp, ?_⟩
        · intro t ht
          rcases List.mem_or_eq_of_mem_set ht with h | h
          · exact (HT.out t h).mono (by omega)
          · rw [h, List.getD_eq_getElem?_getD, List.getElem?_eq_getElem hl, Option.getD_some]
            exact (HT.out _ (List.getElem_mem hl)).mono (by omega)
        · have := own_mono (own_set0 (u := .string ⟨(ts.getD 1 []).toArray⟩) HO4.out) (show w.heap.size ≤ w2.heap.size by omega)
          rw [List.length_set, List.map_set]
          simpa [mkTx] using this
        · exact HB4.out.setCell (p := ⟨gO, 0, none⟩) (by show w.heap.size ≤ gO; omega) _
      · have hlz : ¬ (1 : Int) < (ts.length : Int) := by omega
        go_wp2_with fail
        go_ret
        exact ⟨_, ts, rfl, by omega, fun t ht => (HT.out t ht).mono (by omega), own_mono HO4.out (by omega), by simp, HB4.out⟩
    · go_wp2_with fail
      go_ret
      exact ⟨_, ts, rfl, by omega, fun t ht => (HT.out t ht).mono (by omega), own_mono HO4.out (by omega), by simp, HB4.out⟩
end Go.Proofs.Ytbkedgpligcicaa.Drw

namespace Go.Proofs.Ytbkedgpligcicaa
open Go Go.RowKit
set_option linter.unusedVariables false
set_option maxRecDepth 100000
set_option linter.unusedSimpArgs false

abbrev CodeIn := Drw.CodeIn
theorem dict_some {c : Int} {S : List St} {ts : List Tx} (h : IsDict (c, S) ts) : 0 < (bytesO S (dictT c S)).1.length := by
  rw [dictT_some h]
  show 0 < (bytesD S).length
  unfold bytesD four
  simp
theorem ext_mk (t : Tx) (n : Nat) : (⟨t.toArray⟩ : ByteArray).extract 0 n = ⟨(t.take n).toArray⟩ := by
  apply ByteArray.ext
  rw [ByteArray.data_extract]
  simp
set_option maxHeartbeats 8000000 in
theorem dictLaw_any (hSp : BuildS) (hIm : BuildI) (hFi : FindC 10) (hTe : TermC 11) (hRa : RangeC 12) (hBy : BytesC 13) (hRe : ReadI 14) (hOi : OkC 15) (hOs : OkC 16)
    (ao : Option Addr) (n cap : Nat) (w : World) (hc : CodeIn w ao n) :
    Calls Try.prog 3 #[.slice ao n cap] w fun e w' => e = .returned (.bool true) ∧ Below w.heap.size w w' := by
  have HSp := hidd hSp
  have HIm := hidd hIm
  have HFi := hidd hFi
  have HTe := hidd hTe
  have HRa := hidd hRa
  have HBy := hidd hBy
  have HRe := hidd hRe
  have HOi := hidd hOi
  have HOs := hidd hOs
  have HC := hidd hc
  clear hc hSp hIm hFi hTe hRa hBy hRe hOi hOs
  by_cases hbig : 1048576 < n
  · have hbz : (1048576 : Int) < (n : Int) := by omega
    go_enter Try.func3, Try.ntmps3
    go_wp2_with fail
    go_ret
    exact ⟨rfl, Below.refl _ _⟩
  have hbz : ¬ (1048576 : Int) < (n : Int) := by omega
  go_enter Try.func3, Try.ntmps3
  go_wp2_with fail
  refine (Drw.drawDict_any ao n cap _ (by omega) HC.out).mono ?_
  rintro e w1 ⟨v, ts, rfl, htl, htx, hown, hnn, hb1⟩
  obtain ⟨gO, cO, rfl, hgl⟩ : ∃ g c, v = .slice (some ⟨g, 0, none⟩) ts.length c ∧ g < w1.heap.size := by
    rcases own_cases hown with ⟨e, _⟩ | ⟨g, c, e, _, h⟩
    · exact absurd e hnn
    · exact ⟨g, c, e, h⟩
  have hcO : ts.length ≤ cO ∧ cO ≤ 9223372036854775807 := by
    rcases hown.2 with ⟨h', _⟩ | ⟨g', c', cur, h1, _, _, h2, h3, _⟩
    · cases h'
    · simp only [Value.slice.injEq, Option.some.injEq, Addr.mk.injEq, and_true, true_and] at h1
      obtain ⟨rfl, rfl⟩ := h1
      exact ⟨h2, by unfold maxLen at h3; omega⟩
  have HCe : Hid (∀ j, j < ts.length → w1.cell? ⟨gO, j, none⟩ = some (.string ⟨(ts.getD j []).toArray⟩)) := fun j hj => by
    rw [hown.cellAt j (by omega)]
    simp [mkTx, hj]
  have HTm : Hid (∀ W, Below w1.heap.size w1 W → TmAt W (some ⟨gO, 0, none⟩) ts) := fun W hW => Or.inr ⟨gO, 0, rfl, Nat.lt_of_lt_of_le hgl hW.size, fun j hj => by rw [Nat.zero_add]; exact (hW.cell (p := ⟨gO, j, none⟩) hgl).trans (HCe.out j hj)⟩
  have HTx := hidd htx
  have HB1 := hidd hb1
  have hz1 := hb1.size
  clear hown hnn htx hb1
  dsimp only
  go_wp2_with fail
  refine (HSp.out (some ⟨gO, 0, none⟩) cO ts _ (by omega) (HTm.out _ (Below.refl _ _))).mono ?_
  rintro e w2 ⟨a4, k4, rfl, _, hb2⟩
  have HB2 := hidd hb2
  have hz2 := hb2.size
  clear hb2
  have hsm := bldO_small ts
  have HD := hidd (fun h0 => bld_cases htl h0)
  obtain ⟨q, hq⟩ : ∃ q, bldO ts = q := ⟨_, rfl⟩
  have Hq := hidd hq
  rw [hq] at hsm HD
  rw [hq]
  clear hq
  obtain ⟨⟨c, S⟩, f⟩ := q
  dsimp only at hsm HD
  obtain ⟨hsl, hsa⟩ := hsm
  have HSA := hidd hsa
  clear hsa
  dsimp only
  go_wp2_with fail
  have Hx : Hid (∀ W, Below w1.heap.size w1 W → Calls Try.prog 9 #[.slice (some ⟨gO, 0, none⟩) ts.length cO] W fun e w' => ∃ a k, e = .returned (.tuple #[.agg #[.int .i64 c, .slice a S.length k], .int .i64 f]) ∧ HoldS w' a S ∧ Below W.heap.size W w') := fun W hW => by
    have h := HIm.out (some ⟨gO, 0, none⟩) cO ts W (by omega) hcO.1 hcO.2 (HTm.out _ hW)
    rw [Hq.out] at h
    refine h.mono ?_
    rintro e w' ⟨a, k, lo, hi, xs, rfl, _, hs, _, hb⟩
    obtain ⟨a', k', e', hh⟩ := hs.hold
    simp only [Value.slice.injEq, true_and] at e'
    obtain ⟨rfl, rfl⟩ := e'
    exact ⟨a, k, rfl, hh, hb⟩
  have hbx := (HB2.out.alloc (by omega) (.cells #[.int .i64 c, .slice a4 S.length k4] 27))
  have HBX := hidd hbx
  have q0 : (w2.alloc (.cells #[.int .i64 c, .slice a4 S.length k4] 27)).cell? ⟨w2.heap.size, 0, none⟩ = some (.int .i64 c) := blkc (heap_alloc_new w2 _) 0
  have q1 : (w2.alloc (.cells #[.int .i64 c, .slice a4 S.length k4] 27)).cell? ⟨w2.heap.size, 1, none⟩ = some (.slice a4 S.length k4) := blkc (heap_alloc_new w2 _) 1
  have hzx : (w2.alloc (.cells #[.int .i64 c, .slice a4 S.length k4] 27)).heap.size = w2.heap.size + 1 := by simp
  obtain ⟨x2, hx2⟩ : ∃ x, w2.alloc (.cells #[.int .i64 c, .slice a4 S.length k4] 27) = x := ⟨_, rfl⟩
  rw [hx2] at HBX q0 q1 hzx
  rw [hx2]
  clear hx2 hbx
  refine (Hx.out _ HBX.out).mono ?_
  rintro e w3 ⟨a6, k6, rfl, hh6, hb3⟩
  have hz3 := hb3.size
  have HB3 := hidd (HBX.out.trans (hb3.mono (by omega)))
  have HH6 := hidd hh6
  have r1 := ((hb3.alloc hz3 (.cells #[.int .i64 c, .slice a6 S.length k6] 27)).cell (p := ⟨w2.heap.size, 1, none⟩) (show w2.heap.size < x2.heap.size by omega)).trans q1
  clear q0 q1 hh6 hb3 HBX Hx
  dsimp only
  go_upto_region 6 with fail
  have hbx := (HB3.out.alloc (by omega) (.cells #[.int .i64 c, .slice a6 S.length k6] 27))
  have hhx := HH6.out.below ((Below.refl _ _).alloc (Nat.le_refl _) (.cells #[.int .i64 c, .slice a6 S.length k6] 27))
  have HBX := hidd hbx
  have HHX := hidd hhx
  have q0 : (w3.alloc (.cells #[.int .i64 c, .slice a6 S.length k6] 27)).cell? ⟨w3.heap.size, 0, none⟩ = some (.int .i64 c) := blkc (heap_alloc_new w3 _) 0
  have q1 : (w3.alloc (.cells #[.int .i64 c, .slice a6 S.length k6] 27)).cell? ⟨w3.heap.size, 1, none⟩ = some (.slice a6 S.length k6) := blkc (heap_alloc_new w3 _) 1
  have hzx3 : (w3.alloc (.cells #[.int .i64 c, .slice a6 S.length k6] 27)).heap.size = w3.heap.size + 1 := by simp
  obtain ⟨x3, hx3⟩ : ∃ x, w3.alloc (.cells #[.int .i64 c, .slice a6 S.length k6] 27) = x := ⟨_, rfl⟩
  rw [hx3] at HBX HHX q0 q1 hzx3 r1
  rw [hx3]
  clear hx3 hbx hhx
  by_cases hf : f = 0
  · subst hf
    have HD' := hidd (HD.out rfl)
    clear HD
    obtain rfl : c = (ts.length : Int) := (dict_back HD'.out htl).2.2.2
    have HBk := hidd (dict_back HD'.out htl)
    have HB0 := hidd (dict_some HD'.out)
    have HT33 : Hid (∀ t ∈ ts, (33 : UInt8) ∉ t) := fun t ht => (HTx.out t ht).2
    have HCx : Hid (∀ W, Below x3.heap.size x3 W → ∀ j, j < ts.length → W.cell? ⟨gO, j, none⟩ = some (.string ⟨(ts.getD j []).toArray⟩)) := fun W hW j hj =>
      (hW.cell (p := ⟨gO, j, none⟩) (show gO < x3.heap.size by omega)).trans ((HBX.out.cell (p := ⟨gO, j, none⟩) hgl).trans (HCe.out j hj))
    have HQx : Hid (∀ W, Below x3.heap.size x3 W → W.cell? ⟨w3.heap.size, 0, none⟩ = some (.int .i64 (ts.length : Int)) ∧ W.cell? ⟨w3.heap.size, 1, none⟩ = some (.slice a6 S.length k6)) := fun W hW =>
      ⟨(hW.cell (p := ⟨w3.heap.size, 0, none⟩) (show w3.heap.size < x3.heap.size by omega)).trans q0, (hW.cell (p := ⟨w3.heap.size, 1, none⟩) (show w3.heap.size < x3.heap.size by omega)).trans q1⟩
    have hA6 : ∀ i, (arcsAt S i).length ≤ 1048576 := fun i => Nat.le_trans (HSA.out i) (by omega)
    have HA6 := hidd hA6
    clear hA6
    have hS6 : S.length ≤ 1048576 := by omega
    go_wp2_with fail
    go_loopw [8] (fun iv wr => ∃ i : Nat, iv = .int .i64 (i : Int) ∧ i ≤ ts.length ∧ i ≤ 40 ∧ Below x3.heap.size x3 wr) (fun iv _ => 41 - (intOf iv).toNat)
    case atStart => exact ⟨0, rfl, Nat.zero_le _, by omega, Below.refl _ _⟩
    case round =>
      obtain ⟨i, rfl, hi, hi40, hbr⟩ := hrel
      have HBr := hidd hbr
      have hzr := hbr.size
      obtain ⟨c0, c1⟩ := HQx.out _ hbr
      by_cases hlt : i < ts.length ∧ i < 40
      · obtain ⟨hl1, hl2⟩ := hlt
        have hl1z : (i : Int) < (ts.length : Int) := by omega
        have hl2z : (i : Int) < 40 := by omega
        have c2 := HCx.out _ hbr i hl1
        clear hbr
        have hm := getD_memL hl1
        have htl2 := HD'.out.1.2.2 _ hm
        have HFd : Hid (∀ W, Below x3.heap.size x3 W → Calls Try.prog 10 #[.agg #[.int .i64 (ts.length : Int), .slice a6 S.length k6], .string ⟨(ts.getD i []).toArray⟩] W fun e w' => e = .returned (.tuple #[.int .i64 (i : Int), .int .i64 0]) ∧ Below W.heap.size W w') := fun W hW => by
          have h := HFi.out (ts.length : Int) a6 k6 S (ts.getD i []) W hS6 HA6.out (HHX.out.below hW)
          rw [dict_find HD'.out hl1] at h
          exact h
        have HFo : Hid (∀ W, Below x3.heap.size x3 W → Calls Try.prog 10 #[.agg #[.int .i64 (ts.length : Int), .slice a6 S.length k6], .string ⟨(ts.getD i [] ++ [33]).toArray⟩] W fun e w' => e = .returned (.tuple #[.int .i64 0, .int .i64 8]) ∧ Below W.heap.size W w') := fun W hW => by
          have h := HFi.out (ts.length : Int) a6 k6 S (ts.getD i [] ++ [33]) W hS6 HA6.out (HHX.out.below hW)
          rw [dict_other HD'.out HT33.out htl2.2] at h
          exact h
        have HTd : Hid (∀ W, Below x3.heap.size x3 W → Calls Try.prog 11 #[.agg #[.int .i64 (ts.length : Int), .slice a6 S.length k6], .int .i64 (i : Int)] W fun e w' => e = .returned (.tuple #[.string ⟨(ts.getD i []).toArray⟩, .int .i64 0]) ∧ Below W.heap.size W w') := fun W hW => by
          have h := HTe.out (ts.length : Int) a6 k6 S (i : Int) W hS6 HA6.out (HHX.out.below hW)
          rw [dict_term HD'.out hl1] at h
          exact h
        have HRd := hidd (fun cut => dict_range HD'.out hl1 cut)
        have HCi : Hid (∀ W, Below x3.heap.size x3 W → W.cell? ⟨gO, i, none⟩ = some (.string ⟨(ts.getD i []).toArray⟩)) := fun W hW => HCx.out W hW i hl1
        generalize ts.getD i [] = t at *
        go_upto_region 13 with fail
        go_region_held3 (fun W => W.cell? ⟨w3.heap.size, 0, none⟩ = some (.int .i64 (ts.length : Int)) ∧ W.cell? ⟨w3.heap.size, 1, none⟩ = some (.slice a6 S.length k6) ∧ W.cell? ⟨gO, i, none⟩ = some (.string ⟨t.toArray⟩))
          (first | exact ⟨s0, s1, s2⟩ | exact ⟨c0, c1, c2⟩ | go_keep)
          (first
          | (go_at_call 10; refine (HFd.out _ (below_drewN HBr.out 1)).mono ?_; rintro e wl ⟨rfl, hbl⟩; have HBl := hidd (Below.trans (below_drewN HBr.out 1) (hbl.mono hzr)); have hzl := hbl.size; obtain ⟨s0, s1⟩ := HQx.out _ HBl.out; have s2 := HCi.out _ HBl.out; clear hbl))
        all_goals
          clear c0 c1 c2
          go_wp2_with fail
          refine (HTd.out _ HBl.out).mono ?_
          rintro e wm ⟨rfl, hbm⟩
          have HBm := hidd (HBl.out.trans (hbm.mono HBl.out.size))
          have hzm := hbm.size
          obtain ⟨m0, m1⟩ := HQx.out _ HBm.out
          have m2 := HCi.out _ HBm.out
          clear s0 s1 s2 hbm
          dsimp only
          go_wp2_with fail
          clear m0 m1 m2
          go_loopw [13] (fun cv wc => ∃ cut : Nat, cv = .int .i64 (cut : Int) ∧ 1 ≤ cut ∧ cut ≤ t.length + 1 ∧ Below x3.heap.size x3 wc) (fun cv _ => t.length + 1 - (intOf cv).toNat)
          case atStart => exact ⟨1, rfl, Nat.le_refl _, by omega, HBm.out⟩
          case round =>
            obtain ⟨cut, rfl, hc1, hc2, hbc⟩ := hrel
            have HBc := hidd hbc
            have hzc := hbc.size
            obtain ⟨e0, e1⟩ := HQx.out _ hbc
            have e2 := HCi.out _ hbc
            clear hbc
            by_cases hcut : cut ≤ t.length
            · have hcz : (cut : Int) ≤ (t.length : Int) := by omega
              obtain ⟨lo, nn, hr1, hr2, hr3⟩ := HRd.out cut
              have HR3 := hidd hr3
              have HRc : Hid (∀ W, Below x3.heap.size x3 W → Calls Try.prog 12 #[.agg #[.int .i64 (ts.length : Int), .slice a6 S.length k6], .string ⟨(t.take cut).toArray⟩] W fun e w' => e = .returned (.tuple #[.int .i64 (lo : Int), .int .i64 (nn : Int), .int .i64 0]) ∧ Below W.heap.size W w') := fun W hW => by
                have h := HRa.out (ts.length : Int) a6 k6 S (t.take cut) W hS6 HA6.out (HHX.out.below hW)
                rw [hr1] at h
                exact h
              have hpl : (t.take cut).length = cut := by rw [List.length_take]; omega
              clear hr1 hr3
              go_wp2_with fail
              · exact ⟨⟨cut + 1, by go_num, by omega, by omega, HBc.out⟩, by simp [intOf]; omega⟩
              all_goals
                rw [ext_mk]
                refine (HRc.out _ HBc.out).mono ?_
                rintro e wk ⟨rfl, hbk⟩
                have HBk2 := hidd (HBc.out.trans (hbk.mono HBc.out.size))
                have hzk := hbk.size
                obtain ⟨f0, f1⟩ := HQx.out _ HBk2.out
                have f2 := HCi.out _ HBk2.out
                clear hbk e0 e1 e2
                generalize t.take cut = p at *
                have hps : (⟨p.toArray⟩ : ByteArray).size = p.length := by rw [Lib.size_eq]
                dsimp only
                go_wp2_with fail
                go_loop [18] (fun kv => ∃ k : Nat, k ≤ ts.length ∧ kv = .int .i64 (k : Int)) (fun kv => ts.length - (intOf kv).toNat)
                case atStart => exact ⟨0, Nat.zero_le _, rfl⟩
                case round =>
                  obtain ⟨k, hk, rfl⟩ := hrel
                  by_cases hkl : k < ts.length
                  · have hklz : (k : Int) < (ts.length : Int) := by omega
                    have g2 := HCx.out _ HBk2.out k hkl
                    have hr4 := HR3.out k hkl
                    generalize ts.getD k [] = u at g2 hr4
                    have hus : (⟨u.toArray⟩ : ByteArray).size = u.length := by rw [Lib.size_eq]
                    by_cases hlen : p.length ≤ u.length
                    · have hlz : (u.length : Int) ≥ (p.length : Int) := by omega
                      go_upto_region 27 with fail
                      have hbt : (u.take cut == p) = begs p u := by have := begins_take p u hlen; rw [hpl] at this; exact this
                      rw [ext_take, hbt]
                      cases hbe : begs p u with
                      | true =>
                        obtain ⟨y1, y2⟩ := hr4.1 hbe
                        have y1z : (lo : Int) ≤ (k : Int) := by omega
                        have y2z : (k : Int) < (lo : Int) + (nn : Int) := by omega
                        go_wp2_with fail
                        exact ⟨⟨k + 1, by omega, by go_num⟩, by simp [intOf]; omega⟩
                      | false =>
                        rw [hbe] at hr4
                        have hno : ¬ (lo ≤ k ∧ k < lo + nn) := fun h => by have := hr4.2 h; cases this
                        rcases (by omega : ¬ (lo : Int) ≤ (k : Int) ∨ ((lo : Int) ≤ (k : Int) ∧ ¬ (k : Int) < (lo : Int) + (nn : Int))) with ho | ⟨ho1, ho⟩
                        · go_wp2_with fail
                          exact ⟨⟨k + 1, by omega, by go_num⟩, by simp [intOf]; omega⟩
                        · go_wp2_with fail
                          exact ⟨⟨k + 1, by omega, by go_num⟩, by simp [intOf]; omega⟩
                    · have hlz : ¬ (u.length : Int) ≥ (p.length : Int) := by omega
                      have hbf : begs p u = false := by
                        unfold begs
                        cases e : p.isPrefixOf u with
                        | false => rfl
                        | true => exact absurd ((List.isPrefixOf_iff_prefix.1 e).length_le) hlen
                      rw [hbf] at hr4
                      have hno : ¬ (lo ≤ k ∧ k < lo + nn) := fun h => by have := hr4.2 h; cases this
                      rcases (by omega : ¬ (lo : Int) ≤ (k : Int) ∨ ((lo : Int) ≤ (k : Int) ∧ ¬ (k : Int) < (lo : Int) + (nn : Int))) with ho | ⟨ho1, ho⟩
                      · go_wp2_with fail
                        exact ⟨⟨k + 1, by omega, by go_num⟩, by simp [intOf]; omega⟩
                      · go_wp2_with fail
                        exact ⟨⟨k + 1, by omega, by go_num⟩, by simp [intOf]; omega⟩
                  · have hklz : ¬ (k : Int) < (ts.length : Int) := by omega
                    go_wp2_with fail
                    exact ⟨⟨cut + 1, by go_num, by omega, by omega, HBk2.out⟩, by simp [intOf]; omega⟩
            · have hcz : ¬ (cut : Int) ≤ (t.length : Int) := by omega
              go_upto_region 31 with fail
              have HF33 : Hid (∀ W, Below x3.heap.size x3 W → Calls Try.prog 10 #[.agg #[.int .i64 (ts.length : Int), .slice a6 S.length k6], .string (⟨t.toArray⟩ ++ ⟨#[33]⟩)] W fun e w' => e = .returned (.tuple #[.int .i64 0, .int .i64 8]) ∧ Below W.heap.size W w') := fun W hW => by
                have h := HFo.out W hW
                have e9 : ((⟨t.toArray⟩ : ByteArray) ++ (⟨#[33]⟩ : ByteArray)) = ⟨(t ++ [33]).toArray⟩ := by
                  apply ByteArray.ext
                  simp
                rw [e9]
                exact h
              have HFw : Hid (∀ W, Below wr.heap.size wr W → Calls Try.prog 10 #[.agg #[.int .i64 (ts.length : Int), .slice a6 S.length k6], .string (⟨t.toArray⟩ ++ ⟨#[33]⟩)] W fun e w' => e = .returned (.tuple #[.int .i64 0, .int .i64 8]) ∧ Below W.heap.size W w') := fun W hW => HF33.out W (HBc.out.trans (hW.mono hzc))
              have Hcz : Hid ((t.length : Int) + 1 ≤ 9223372036854775807) := by have := htl2.2; show _ ≤ _; omega
              refine wp_region_held_drew (S := (fun w' => w'.cell? ⟨w3.heap.size, 0, none⟩ = some (.int .i64 (ts.length : Int)) ∧ w'.cell? ⟨w3.heap.size, 1, none⟩ = some (.slice a6 S.length k6) ∧ w'.cell? ⟨gO, i, none⟩ = some (.string ⟨t.toArray⟩))) (by kernel_rfl) ?_ (fun hHeld => ?_)
              · exact ⟨e0, e1, e2⟩
              refine wpAnyH_take (i := 0) (v := ?_) rfl (by kernel_rfl) (by kernel_rfl) (by kernel_rfl) (fun _ _ _ h => h) (Or.inl ⟨by kernel_rfl, ?_⟩) (by assumption) ?_
              rotate_left
              · (intro w hSw; (try dsimp only at hSw); go_simp <;> with_reducible rfl)
              (simp only [Act.put, List.getElem_toArray, List.getElem_cons_succ, List.getElem_cons_zero, List.setIfInBounds_toArray, List.set_cons_zero, List.set_cons_succ])
              refine wpAnyH_take (i := 1) (v := ?_) rfl (by kernel_rfl) (by kernel_rfl) (by kernel_rfl) (fun _ _ _ h => h) (Or.inl ⟨by kernel_rfl, ?_⟩) (by assumption) ?_
              rotate_left
              · (intro w hSw; (try dsimp only at hSw); go_simp <;> with_reducible rfl)
              (simp only [Act.put, List.getElem_toArray, List.getElem_cons_succ, List.getElem_cons_zero, List.setIfInBounds_toArray, List.set_cons_zero, List.set_cons_succ])
              refine wpAnyH_take (i := 2) (v := ?_) rfl (by kernel_rfl) (by kernel_rfl) (by kernel_rfl) (fun _ _ _ h => h) (Or.inl ⟨by kernel_rfl, ?_⟩) (by assumption) ?_
              rotate_left
              · (intro w hSw; (try dsimp only at hSw); go_simp <;> with_reducible rfl)
              (simp only [Act.put, List.getElem_toArray, List.getElem_cons_succ, List.getElem_cons_zero, List.setIfInBounds_toArray, List.set_cons_zero, List.set_cons_succ])
              refine wpAnyH_take (i := 3) (v := ?_) rfl (by kernel_rfl) (by kernel_rfl) (by kernel_rfl) (fun _ _ _ h => h) (Or.inl ⟨by kernel_rfl, ?_⟩) (by assumption) ?_
              rotate_left
              · (intro w hSw; (try dsimp only at hSw); go_simp <;> with_reducible rfl)
              (simp only [Act.put, List.getElem_toArray, List.getElem_cons_succ, List.getElem_cons_zero, List.setIfInBounds_toArray, List.set_cons_zero, List.set_cons_succ])
              refine wpAnyH_take (i := 4) (v := ?_) rfl (by kernel_rfl) (by kernel_rfl) (by kernel_rfl) (fun _ _ _ h => h) (Or.inl ⟨by kernel_rfl, ?_⟩) (by assumption) ?_
              rotate_left
              · (intro w hSw; (try dsimp only at hSw); go_simp <;> with_reducible rfl)
              (simp only [Act.put, List.getElem_toArray, List.getElem_cons_succ, List.getElem_cons_zero, List.setIfInBounds_toArray, List.set_cons_zero, List.set_cons_succ])
              refine wpAnyH_take (i := 5) (v := .string (⟨t.toArray⟩ ++ ⟨#[33]⟩)) rfl (by kernel_rfl) (by kernel_rfl) (by kernel_rfl) (fun _ _ _ h => h) (Or.inl ⟨by kernel_rfl, ?_⟩) (by assumption) ?_
              · (intro w hSw; (try dsimp only at hSw); go_simp; first | done | exact Hcz.out | (have := Hcz.out; omega))
              (simp only [Act.put, List.getElem_toArray, List.getElem_cons_succ, List.getElem_cons_zero, List.setIfInBounds_toArray, List.set_cons_zero, List.set_cons_succ])
              refine wpAnyH_ready (rs := [6]) (by kernel_rfl) (by simp) ?_
              refine AllReadyH.cons rfl (fun K hK => ?_) AllReadyH.nil
              go_simp
              refine (HFw.out _ (below_drewN (Below.refl wr.heap.size wr) 1)).mono ?_
              rintro e' wv1 ⟨rfl, hbv1⟩
              have HBw1 : Hid (Below wr.heap.size wr wv1) := Below.trans (below_drewN (Below.refl wr.heap.size wr) 1) (hbv1.mono (Below.size (below_drewN (Below.refl wr.heap.size wr) 1)))
              clear hbv1
              go_wp2_with fail
              refine hK.out _ _ ?_ (fun hHeld1 => ?_)
              · exact ⟨(HBw1.out.cell (p := ⟨w3.heap.size, 0, none⟩) (show w3.heap.size < wr.heap.size by omega)).trans e0, (HBw1.out.cell (p := ⟨w3.heap.size, 1, none⟩) (show w3.heap.size < wr.heap.size by omega)).trans e1, (HBw1.out.cell (p := ⟨gO, i, none⟩) (show gO < wr.heap.size by omega)).trans e2⟩
              clear hK K
              try simp only [Act.put, List.getElem_toArray, List.getElem_cons_succ, List.getElem_cons_zero, List.setIfInBounds_toArray, List.set_cons_zero, List.set_cons_succ]
              refine wpAnyH_take (i := 7) (v := ?_) rfl (by kernel_rfl) (by kernel_rfl) (by kernel_rfl) (fun _ _ _ h => h) (Or.inl ⟨by kernel_rfl, ?_⟩) (by assumption) ?_
              rotate_left
              · (intro w hSw; (try dsimp only at hSw); go_simp <;> with_reducible rfl)
              (simp only [Act.put, List.getElem_toArray, List.getElem_cons_succ, List.getElem_cons_zero, List.setIfInBounds_toArray, List.set_cons_zero, List.set_cons_succ])
              refine wpAnyH_take (i := 8) (v := ?_) rfl (by kernel_rfl) (by kernel_rfl) (by kernel_rfl) (fun _ _ _ h => h) (Or.inl ⟨by kernel_rfl, ?_⟩) (by assumption) ?_
              rotate_left
              · (intro w hSw; (try dsimp only at hSw); go_simp <;> with_reducible rfl)
              (simp only [Act.put, List.getElem_toArray, List.getElem_cons_succ, List.getElem_cons_zero, List.setIfInBounds_toArray, List.set_cons_zero, List.set_cons_succ])
              refine wpAnyH_take (i := 9) (v := ?_) rfl (by kernel_rfl) (by kernel_rfl) (by kernel_rfl) (fun _ _ _ h => h) (Or.inl ⟨by kernel_rfl, ?_⟩) (by assumption) ?_
              rotate_left
              · (intro w hSw; (try dsimp only at hSw); go_simp <;> with_reducible rfl)
              (simp only [Act.put, List.getElem_toArray, List.getElem_cons_succ, List.getElem_cons_zero, List.setIfInBounds_toArray, List.set_cons_zero, List.set_cons_succ])
              refine wpAnyH_take (i := 10) (v := ?_) rfl (by kernel_rfl) (by kernel_rfl) (by kernel_rfl) (fun _ _ _ h => h) (Or.inl ⟨by kernel_rfl, ?_⟩) (by assumption) ?_
              rotate_left
              · (intro w hSw; (try dsimp only at hSw); go_simp <;> with_reducible rfl)
              (simp only [Act.put, List.getElem_toArray, List.getElem_cons_succ, List.getElem_cons_zero, List.setIfInBounds_toArray, List.set_cons_zero, List.set_cons_succ])
              refine wpAnyH_take (i := 11) (v := ?_) rfl (by kernel_rfl) (by kernel_rfl) (by kernel_rfl) (fun _ _ _ h => h) (Or.inl ⟨by kernel_rfl, ?_⟩) (by assumption) ?_
              rotate_left
              · (intro w hSw; (try dsimp only at hSw); go_simp <;> with_reducible rfl)
              (simp only [Act.put, List.getElem_toArray, List.getElem_cons_succ, List.getElem_cons_zero, List.setIfInBounds_toArray, List.set_cons_zero, List.set_cons_succ])
              refine wpAnyH_done (by kernel_rfl) ?_ _
              clear hHeld hHeld1
              have HBl2 := hidd (HBc.out.trans (HBw1.out.mono hzc))
              go_wp2_with fail
              exact ⟨⟨i + 1, by go_num, by omega, by omega, HBl2.out⟩, by simp [intOf]; omega⟩
      · have hltz : ¬ (i : Int) < (ts.length : Int) ∨ ((i : Int) < (ts.length : Int) ∧ ¬ (i : Int) < 40) := by omega
        clear hbr
        rcases hltz with hltz | ⟨hl1z, hltz⟩
        · go_wp2_with fail
          refine (HBy.out _ a6 k6 S _ hS6 HA6.out (HHX.out.below HBr.out)).mono ?_
          rintro e w4 ⟨v, rfl, hown4, hb4⟩
          obtain ⟨bk1, bk2, bk3, _⟩ := HBk.out
          have hb0 := HB0.out
          rw [bk2]
          obtain ⟨bs, hbs⟩ : ∃ bs, (bytesO S (dictT (ts.length : Int) S)).1 = bs := ⟨_, rfl⟩
          rw [hbs] at hown4 bk1 hb0
          clear hbs bk2
          obtain ⟨g4, k9, rfl, hg4, hk9, hk8⟩ : ∃ g c, v = .slice (some ⟨g, 0, none⟩) bs.length c ∧ g < w4.heap.size ∧ bs.length ≤ c ∧ c ≤ 9223372036854775807 := by
            rcases hown4.2 with ⟨_, h'⟩ | ⟨g', c', cur, h1, h5, h6, h2, h3, _⟩
            · omega
            · exact ⟨g', c', h1, (Array.getElem?_eq_some_iff.1 h6).1, h2, by unfold maxLen at h3; omega⟩
          have hby4 : BytesAt w4 g4 0 bs := own_bytes hown4 rfl
          have HR := HRe.out g4 0 k9 bs w4 (by omega) hk9 hby4 hg4
          rw [bk1] at HR
          dsimp only at HR
          have HR' := hidd HR
          have hz4 := hb4.size
          have HB4 := hidd (HBr.out.trans (hb4.mono hzr))
          have Hbk3 := hidd bk3
          clear HR hby4 hown4 hb4 bk1 bk3
          dsimp only
          go_wp2_with fail
          refine HR'.out.mono ?_
          rintro e w5 ⟨a7, k7, lo, hi, xs, rfl, _, hsts, _, hb5⟩
          obtain ⟨a7', k7', e7, hh7⟩ := hsts.hold
          simp only [Value.slice.injEq, true_and] at e7
          obtain ⟨rfl, rfl⟩ := e7
          have hz5 := hb5.size
          have HB5 := hidd (HB4.out.trans (hb5.mono (by omega)))
          have HH7 := hidd hh7
          clear hh7 hsts hb5
          dsimp only
          go_upto_region 36 with fail
          have HB6 := hidd (HB5.out.alloc (by omega) (.cells #[.int .i64 (ts.length : Int), .slice a7 S.length k7] 27))
          have HH8 := hidd (HH7.out.below ((Below.refl _ _).alloc (Nat.le_refl _) (.cells #[.int .i64 (ts.length : Int), .slice a7 S.length k7] 27)))
          have p0 : (w5.alloc (.cells #[.int .i64 (ts.length : Int), .slice a7 S.length k7] 27)).cell? ⟨w5.heap.size, 0, none⟩ = some (.int .i64 (ts.length : Int)) := blkc (heap_alloc_new w5 _) 0
          have p1 : (w5.alloc (.cells #[.int .i64 (ts.length : Int), .slice a7 S.length k7] 27)).cell? ⟨w5.heap.size, 1, none⟩ = some (.slice a7 S.length k7) := blkc (heap_alloc_new w5 _) 1
          have hz6 : (w5.alloc (.cells #[.int .i64 (ts.length : Int), .slice a7 S.length k7] 27)).heap.size = w5.heap.size + 1 := by simp
          obtain ⟨x5, hx5⟩ : ∃ x, w5.alloc (.cells #[.int .i64 (ts.length : Int), .slice a7 S.length k7] 27) = x := ⟨_, rfl⟩
          rw [hx5] at HB6 HH8 p0 p1 hz6
          rw [hx5]
          clear hx5
          obtain ⟨d0, d1⟩ := HQx.out _ HB6.out
          clear c0 c1
          go_wp2_with fail
          refine (HOi.out _ a6 k6 S _ hS6 HA6.out (HHX.out.below HB6.out)).mono ?_
          rintro e w7 ⟨rfl, hb7⟩
          have t0 := (hb7.cell (p := ⟨w5.heap.size, 0, none⟩) (show w5.heap.size < x5.heap.size by omega)).trans p0
          have t1 := (hb7.cell (p := ⟨w5.heap.size, 1, none⟩) (show w5.heap.size < x5.heap.size by omega)).trans p1
          have hz7 := hb7.size
          have HB7 := hidd (HB6.out.trans (hb7.mono (by omega)))
          have HH9 := hidd (HH8.out.below hb7)
          rw [Hbk3.out]
          clear hb7 p0 p1 d0 d1
          dsimp only
          go_wp2_with fail
          refine (HOs.out _ a7 k7 S _ hS6 HA6.out HH9.out).mono ?_
          rintro e w8 ⟨rfl, hb8⟩
          have HB8 := hidd (HB7.out.trans (hb8.mono (by omega)))
          rw [Hbk3.out]
          clear hb8 t0 t1
          dsimp only
          go_wp2_with fail
          go_ret
          exact ⟨rfl, HB1.out.trans ((HBX.out.trans (HB8.out.mono (by omega))).mono (by omega))⟩
        · go_wp2_with fail
          refine (HBy.out _ a6 k6 S _ hS6 HA6.out (HHX.out.below HBr.out)).mono ?_
          rintro e w4 ⟨v, rfl, hown4, hb4⟩
          obtain ⟨bk1, bk2, bk3, _⟩ := HBk.out
          have hb0 := HB0.out
          rw [bk2]
          obtain ⟨bs, hbs⟩ : ∃ bs, (bytesO S (dictT (ts.length : Int) S)).1 = bs := ⟨_, rfl⟩
          rw [hbs] at hown4 bk1 hb0
          clear hbs bk2
          obtain ⟨g4, k9, rfl, hg4, hk9, hk8⟩ : ∃ g c, v = .slice (some ⟨g, 0, none⟩) bs.length c ∧ g < w4.heap.size ∧ bs.length ≤ c ∧ c ≤ 9223372036854775807 := by
            rcases hown4.2 with ⟨_, h'⟩ | ⟨g', c', cur, h1, h5, h6, h2, h3, _⟩
            · omega
            · exact ⟨g', c', h1, (Array.getElem?_eq_some_iff.1 h6).1, h2, by unfold maxLen at h3; omega⟩
          have hby4 : BytesAt w4 g4 0 bs := own_bytes hown4 rfl
          have HR := HRe.out g4 0 k9 bs w4 (by omega) hk9 hby4 hg4
          rw [bk1] at HR
          dsimp only at HR
          have HR' := hidd HR
          have hz4 := hb4.size
          have HB4 := hidd (HBr.out.trans (hb4.mono hzr))
          have Hbk3 := hidd bk3
          clear HR hby4 hown4 hb4 bk1 bk3
          dsimp only
          go_wp2_with fail
          refine HR'.out.mono ?_
          rintro e w5 ⟨a7, k7, lo, hi, xs, rfl, _, hsts, _, hb5⟩
          obtain ⟨a7', k7', e7, hh7⟩ := hsts.hold
          simp only [Value.slice.injEq, true_and] at e7
          obtain ⟨rfl, rfl⟩ := e7
          have hz5 := hb5.size
          have HB5 := hidd (HB4.out.trans (hb5.mono (by omega)))
          have HH7 := hidd hh7
          clear hh7 hsts hb5
          dsimp only
          go_upto_region 36 with fail
          have HB6 := hidd (HB5.out.alloc (by omega) (.cells #[.int .i64 (ts.length : Int), .slice a7 S.length k7] 27))
          have HH8 := hidd (HH7.out.below ((Below.refl _ _).alloc (Nat.le_refl _) (.cells #[.int .i64 (ts.length : Int), .slice a7 S.length k7] 27)))
          have p0 : (w5.alloc (.cells #[.int .i64 (ts.length : Int), .slice a7 S.length k7] 27)).cell? ⟨w5.heap.size, 0, none⟩ = some (.int .i64 (ts.length : Int)) := blkc (heap_alloc_new w5 _) 0
          have p1 : (w5.alloc (.cells #[.int .i64 (ts.length : Int), .slice a7 S.length k7] 27)).cell? ⟨w5.heap.size, 1, none⟩ = some (.slice a7 S.length k7) := blkc (heap_alloc_new w5 _) 1
          have hz6 : (w5.alloc (.cells #[.int .i64 (ts.length : Int), .slice a7 S.length k7] 27)).heap.size = w5.heap.size + 1 := by simp
          obtain ⟨x5, hx5⟩ : ∃ x, w5.alloc (.cells #[.int .i64 (ts.length : Int), .slice a7 S.length k7] 27) = x := ⟨_, rfl⟩
          rw [hx5] at HB6 HH8 p0 p1 hz6
          rw [hx5]
          clear hx5
          obtain ⟨d0, d1⟩ := HQx.out _ HB6.out
          clear c0 c1
          go_wp2_with fail
          refine (HOi.out _ a6 k6 S _ hS6 HA6.out (HHX.out.below HB6.out)).mono ?_
          rintro e w7 ⟨rfl, hb7⟩
          have t0 := (hb7.cell (p := ⟨w5.heap.size, 0, none⟩) (show w5.heap.size < x5.heap.size by omega)).trans p0
          have t1 := (hb7.cell (p := ⟨w5.heap.size, 1, none⟩) (show w5.heap.size < x5.heap.size by omega)).trans p1
          have hz7 := hb7.size
          have HB7 := hidd (HB6.out.trans (hb7.mono (by omega)))
          have HH9 := hidd (HH8.out.below hb7)
          rw [Hbk3.out]
          clear hb7 p0 p1 d0 d1
          dsimp only
          go_wp2_with fail
          refine (HOs.out _ a7 k7 S _ hS6 HA6.out HH9.out).mono ?_
          rintro e w8 ⟨rfl, hb8⟩
          have HB8 := hidd (HB7.out.trans (hb8.mono (by omega)))
          rw [Hbk3.out]
          clear hb8 t0 t1
          dsimp only
          go_wp2_with fail
          go_ret
          exact ⟨rfl, HB1.out.trans ((HBX.out.trans (HB8.out.mono (by omega))).mono (by omega))⟩
  · go_wp2_with fail
    go_ret
    exact ⟨rfl, HB1.out.trans (HBX.out.mono (by omega))⟩
end Go.Proofs.Ytbkedgpligcicaa

namespace Go.Proofs.Ytbkedgpligcicaa
open Go Go.RowKit
set_option linter.unusedVariables false
theorem dictLaw (ao : Option Addr) (n cap : Nat) (w : World) (hc : CodeIn w ao n) :
    Calls Try.prog 3 #[.slice ao n cap] w fun e w' => e = .returned (.bool true) ∧ Below w.heap.size w w' :=
  dictLaw_any specBuild_any implBuild_any (implFind_any (dictOK_any endingsOf_any)) (implTerm_any (dictOK_any endingsOf_any)) (implRange_any (dictOK_any endingsOf_any)) (implBytes_any (dictOK_any endingsOf_any)) implRead_any (dictOK_any endingsOf_any) (specDictOK_any make_any) ao n cap w hc
end Go.Proofs.Ytbkedgpligcicaa
