import Derived.Test.YtgoklapafidpkaaGreatDoorTermsJ43
import Derived.Test.YtgoklapafidpkaaGreatDoorTermsJ00
import Derived.WalkLawsBesides
import Derived.BigQuiet
import Derived.Deep.QuietTactic
import Derived.Deep.RegionWith
namespace Go.Proofs.YtgoklapafidpkaaGreatDoor
open Go Go.RowKit
set_option linter.unusedVariables false
set_option maxRecDepth 100000

theorem Tryz.infoStrD : (Tryz.prog.info? 9).map (fun i => (i.zero, i.size, i.bytes)) = some (some (.string ⟨#[]⟩), 1, 16) := by kernel_rfl
theorem Tryz.infoIntD : (Tryz.prog.info? 3).map (fun i => (i.zero, i.size, i.bytes)) = some (some (.int .i64 0), 1, 8) := by kernel_rfl
def mkS (t : List UInt8) : Value := .string ⟨t.toArray⟩
def mkI (z : Int) : Value := .int .i64 z
/-- A row of its own, of type ty, that begins with the cells of l. -/
def RowF {X : Type} (mk : X → Value) (ty : TypeId) (d : X) (w : World) (g : Nat) (l : List X) : Prop := ∃ cur, w.heap[g]? = some (Obj.cells cur ty) ∧ l.length ≤ cur.size ∧ ∀ i, i < l.length → cur[i]? = some (mk (l.getD i d))
abbrev RowTx (w : World) (g : Nat) (l : List (List UInt8)) : Prop := RowF mkS 9 [] w g l
abbrev RowNz (w : World) (g : Nat) (l : List Int) : Prop := RowF mkI 3 0 w g l
theorem RowF.keep {X : Type} {mk : X → Value} {ty : TypeId} {d : X} {w w' : World} {g : Nat} {l : List X} (h : RowF mk ty d w g l) (hk : w'.heap[g]? = w.heap[g]?) : RowF mk ty d w' g l := by
  obtain ⟨cur, h1, h2, h3⟩ := h
  exact ⟨cur, hk.trans h1, h2, h3⟩
theorem RowF.lt {X : Type} {mk : X → Value} {ty : TypeId} {d : X} {w : World} {g : Nat} {l : List X} (h : RowF mk ty d w g l) : g < w.heap.size := by
  obtain ⟨cur, h1, h2, h3⟩ := h
  exact (Array.getElem?_eq_some_iff.1 h1).1
theorem RowF.below {X : Type} {mk : X → Value} {ty : TypeId} {d : X} {w w' : World} {g : Nat} {l : List X} (h : RowF mk ty d w g l) (hb : Below w.heap.size w w') : RowF mk ty d w' g l := h.keep (hb.block g h.lt)
theorem RowTx.hold {w : World} {g : Nat} {l : List (List UInt8)} (h : RowTx w g l) : HoldTx w (some ⟨g, 0, none⟩) l := by
  refine Or.inr ⟨g, 0, rfl, h.lt, fun i hi => ?_⟩
  obtain ⟨cur, h1, h2, h3⟩ := h
  rw [Nat.zero_add, blkc h1, h3 i hi]; rfl
theorem RowNz.hold {w : World} {g : Nat} {l : List Int} (h : RowNz w g l) : HoldZ w (some ⟨g, 0, none⟩) l := by
  refine Or.inr ⟨g, 0, rfl, h.lt, fun i hi => ?_⟩
  obtain ⟨cur, h1, h2, h3⟩ := h
  rw [Nat.zero_add, blkc h1, h3 i hi]; rfl
theorem row_own {X : Type} (mk : X → Value) (l : List X) (d : X) {w : World} {base g : Nat} {ty : TypeId} (h : w.ownsRow base ty 1 (.slice (some ⟨g, 0, none⟩) l.length l.length) l.length (l.map mk)) : RowF mk ty d w g l := by
  rcases h.2 with ⟨h', _⟩ | ⟨g', cap, cur, h', _, hg, hc1, hc2, hc3, hc4⟩
  · simp at h'
  · simp only [Value.slice.injEq, Option.some.injEq, Addr.mk.injEq, and_true, true_and] at h'
    obtain ⟨rfl, rfl⟩ := h'
    refine ⟨cur, hg, by omega, fun i hi => ?_⟩
    have := h.cellAt i (by omega)
    rw [blkc hg] at this
    rw [this]
    simp [hi]
theorem setOne {X : Type} (mk : X → Value) (l : List X) (d : X) (k : Nat) (xs : List Value) (hx : xs.length = l.length) (hk : k < l.length) : ((l.take k).map mk ++ xs.drop k).set k (mk (l.getD k d)) = (l.take (k + 1)).map mk ++ xs.drop (k + 1) := by
  have e : ((l.take k).map mk).length = k := by simp; omega
  rw [List.set_append_right _ _ (by omega), e, Nat.sub_self, List.drop_eq_getElem_cons (l := xs) (i := k) (by omega), List.set_cons_zero, List.take_succ_eq_append_getElem hk, List.getD_eq_getElem?_getD, List.getElem?_eq_getElem hk, List.map_append, List.append_assoc]
  rfl
set_option maxHeartbeats 2000000 in
theorem toTx_any (a : Option Addr) (cap : Nat) (l : List (List UInt8)) (w : World) (hn : l.length ≤ 1048576) (hS : HoldTx w a l) :
    Calls Tryz.prog 105 #[.slice a l.length cap] w fun e w' => e = .returned (.slice (some ⟨w.heap.size, 0, none⟩) l.length l.length) ∧ RowTx w' w.heap.size l ∧ Below w.heap.size w w' := by
  obtain ⟨i0, hi, hz0, hz1, hz2⟩ := info_parts Tryz.infoStrD
  have HS := hidd hS
  clear hS
  go_enter Tryz.func105, Tryz.ntmps105
  go_wp2_with (at_make; refine wpList_make_full _ rfl _ _ 57 rfl w.heap.size 9 i0 (.string ⟨#[]⟩) 1 Tryz.underlying57 hi hz0 hz1 _ _ _ _ l.length rfl rfl (by omega) (by omega) ?b2 ?b3 (Nat.le_refl _) ?_)
  case b2 => (first | omega | (rw [hz2]; omega))
  case b3 => unfold maxLen; omega
  intro w0 hown0 hgrow0
  generalize (madeCells #[Value.string ⟨#[]⟩] l.length).toList = xs at hown0
  have hxl : xs.length = l.length := by have := hown0.1; omega
  have HO0 := hidd hown0
  have HB0 : Hid (Below w.heap.size w w0) := (Below.refl _ _).grown hgrow0 (Nat.le_refl _) (fun k h => by cases h)
  clear hown0 hgrow0
  go_wp2
  go_loopw [4] (fun i wr => ∃ k : Nat, k ≤ l.length ∧ i = .int .i64 k ∧ wr.ownsRow w.heap.size 9 1 (.slice (some ⟨w.heap.size, 0, none⟩) l.length l.length) l.length ((l.take k).map mkS ++ xs.drop k) ∧ Below w.heap.size w wr) (fun i _ => l.length - (intOf i).toNat)
  case atStart => exact ⟨0, Nat.zero_le _, rfl, HO0.out, HB0.out⟩
  case round =>
    obtain ⟨k, hk, rfl, hown, hbel⟩ := hrel
    have HO := hidd hown
    have HB := hidd hbel
    by_cases hlt : k < l.length
    · obtain ⟨b, off, rfl, hbl, hc⟩ := HS.out.resolve_left (fun h => by rw [h] at hlt; simp at hlt)
      have g1 := (hbel.cell (p := ⟨b, off + k, none⟩) hbl).trans (hc k hlt)
      have f1 := hown.frozenAt k
      have hex : ∃ u, wr.cell? ⟨w.heap.size, k, none⟩ = some u := by
        rw [hown.cellAt k (by omega)]
        have hlen : k < ((l.take k).map mkS ++ xs.drop k).length := by rw [List.length_append, List.length_map, List.length_take, List.length_drop]; omega
        exact ⟨_, List.getElem?_eq_getElem hlen⟩
      obtain ⟨u, q1⟩ := hex
      have HSet := hidd (setOne mkS l [] k xs hxl hlt)
      generalize l.getD k [] = t at *
      clear hown hbel hc
      go_wp2
      go_roundw
      case rel =>
        have st := (HO.out.stored k (mkS t)).1
        rw [HSet.out] at st
        exact ⟨k + 1, by omega, by go_num, st, HB.out.setCell (p := ⟨w.heap.size, k, none⟩) (Nat.le_refl _) _⟩
      case measure => simp [intOf]; omega
    · have HF := HO.out
      rw [List.take_of_length_le (by omega), List.drop_of_length_le (by omega), List.append_nil] at HF
      have HF2 := hidd (row_own mkS l [] HF)
      clear HF hown hbel
      go_wp2
      go_ret
      exact ⟨rfl, HF2.out, HB.out⟩
set_option maxHeartbeats 2000000 in
theorem toNz_any (a : Option Addr) (cap : Nat) (l : List Int) (w : World) (hn : l.length ≤ 1048576) (hS : HoldZ w a l) :
    Calls Tryz.prog 106 #[.slice a l.length cap] w fun e w' => e = .returned (.slice (some ⟨w.heap.size, 0, none⟩) l.length l.length) ∧ RowNz w' w.heap.size l ∧ Below w.heap.size w w' := by
  obtain ⟨i0, hi, hz0, hz1, hz2⟩ := info_parts Tryz.infoIntD
  have HS := hidd hS
  clear hS
  go_enter Tryz.func106, Tryz.ntmps106
  go_wp2_with (at_make; refine wpList_make_full _ rfl _ _ 58 rfl w.heap.size 3 i0 (.int .i64 0) 1 Tryz.underlying58 hi hz0 hz1 _ _ _ _ l.length rfl rfl (by omega) (by omega) ?b2 ?b3 (Nat.le_refl _) ?_)
  case b2 => (first | omega | (rw [hz2]; omega))
  case b3 => unfold maxLen; omega
  intro w0 hown0 hgrow0
  generalize (madeCells #[Value.int .i64 0] l.length).toList = xs at hown0
  have hxl : xs.length = l.length := by have := hown0.1; omega
  have HO0 := hidd hown0
  have HB0 : Hid (Below w.heap.size w w0) := (Below.refl _ _).grown hgrow0 (Nat.le_refl _) (fun k h => by cases h)
  clear hown0 hgrow0
  go_wp2
  go_loopw [4] (fun i wr => ∃ k : Nat, k ≤ l.length ∧ i = .int .i64 k ∧ wr.ownsRow w.heap.size 3 1 (.slice (some ⟨w.heap.size, 0, none⟩) l.length l.length) l.length ((l.take k).map mkI ++ xs.drop k) ∧ Below w.heap.size w wr) (fun i _ => l.length - (intOf i).toNat)
  case atStart => exact ⟨0, Nat.zero_le _, rfl, HO0.out, HB0.out⟩
  case round =>
    obtain ⟨k, hk, rfl, hown, hbel⟩ := hrel
    have HO := hidd hown
    have HB := hidd hbel
    by_cases hlt : k < l.length
    · obtain ⟨b, off, rfl, hbl, hc⟩ := HS.out.resolve_left (fun h => by rw [h] at hlt; simp at hlt)
      have g1 := (hbel.cell (p := ⟨b, off + k, none⟩) hbl).trans (hc k hlt)
      have f1 := hown.frozenAt k
      have hex : ∃ u, wr.cell? ⟨w.heap.size, k, none⟩ = some u := by
        rw [hown.cellAt k (by omega)]
        have hlen : k < ((l.take k).map mkI ++ xs.drop k).length := by rw [List.length_append, List.length_map, List.length_take, List.length_drop]; omega
        exact ⟨_, List.getElem?_eq_getElem hlen⟩
      obtain ⟨u, q1⟩ := hex
      have HSet := hidd (setOne mkI l 0 k xs hxl hlt)
      generalize l.getD k 0 = t at *
      clear hown hbel hc
      go_wp2
      go_roundw
      case rel =>
        have st := (HO.out.stored k (mkI t)).1
        rw [HSet.out] at st
        exact ⟨k + 1, by omega, by go_num, st, HB.out.setCell (p := ⟨w.heap.size, k, none⟩) (Nat.le_refl _) _⟩
      case measure => simp [intOf]; omega
    · have HF := HO.out
      rw [List.take_of_length_le (by omega), List.drop_of_length_le (by omega), List.append_nil] at HF
      have HF2 := hidd (row_own mkI l 0 HF)
      clear HF hown hbel
      go_wp2
      go_ret
      exact ⟨rfl, HF2.out, HB.out⟩
end Go.Proofs.YtgoklapafidpkaaGreatDoor

namespace Go.Proofs.YtgoklapafidpkaaGreatDoor
open Go Go.RowKit
set_option linter.unusedVariables false
set_option maxRecDepth 100000

set_option maxHeartbeats 4000000 in
theorem toVal_any (f : List UInt8) (at_ an : Option Addr) (ct cn : Nat) (tx : List (List UInt8)) (nz : List Int) (w : World) (hxl : tx.length ≤ 1048576) (hnl : nz.length ≤ 1048576) (hT : HoldTx w at_ tx) (hZ : HoldZ w an nz) :
    Calls Tryz.prog 69 #[.agg #[.string ⟨f.toArray⟩, .slice at_ tx.length ct, .slice an nz.length cn]] w fun e w' => ∃ gt gn, e = .returned (.agg #[.string ⟨f.toArray⟩, .slice (some ⟨gt, 0, none⟩) tx.length tx.length, .slice (some ⟨gn, 0, none⟩) nz.length nz.length]) ∧ w.heap.size ≤ gt ∧ w.heap.size ≤ gn ∧ RowTx w' gt tx ∧ RowNz w' gn nz ∧ Below w.heap.size w w' := by
  have HT := hidd hT
  have HZ := hidd hZ
  clear hT hZ
  go_enter Tryz.func69, Tryz.ntmps69
  go_upto_region 3 with fail
  obtain ⟨W3, hW3⟩ : ∃ W3, ((w.alloc (.cells #[.string ⟨f.toArray⟩, .slice at_ tx.length ct, .slice an nz.length cn] 115)).alloc (.cells #[.string ⟨#[]⟩, .slice none 0 0, .slice none 0 0] 60)).alloc (.cells #[.string ⟨f.toArray⟩, .slice none 0 0, .slice none 0 0] 60) = W3 := ⟨_, rfl⟩
  have hk0 : W3.heap[w.heap.size]? = some (.cells #[.string ⟨f.toArray⟩, .slice at_ tx.length ct, .slice an nz.length cn] 115) ∧ W3.heap[w.heap.size + 1]? = some (.cells #[.string ⟨#[]⟩, .slice none 0 0, .slice none 0 0] 60) ∧ W3.heap[w.heap.size + 1 + 1]? = some (.cells #[.string ⟨f.toArray⟩, .slice none 0 0, .slice none 0 0] 60) ∧ W3.heap.size = w.heap.size + 3 := by
    rw [← hW3]
    have h2 := box_two w (.cells #[.string ⟨f.toArray⟩, .slice at_ tx.length ct, .slice an nz.length cn] 115) (.cells #[.string ⟨#[]⟩, .slice none 0 0, .slice none 0 0] 60)
    refine ⟨?_, ?_, ?_, by simp⟩
    · rw [Below.heap_alloc _ _ _ (by simp; omega)]; exact h2.1
    · rw [Below.heap_alloc _ _ _ (by simp)]; exact h2.2
    · have := heap_alloc_new ((w.alloc (.cells #[.string ⟨f.toArray⟩, .slice at_ tx.length ct, .slice an nz.length cn] 115)).alloc (.cells #[.string ⟨#[]⟩, .slice none 0 0, .slice none 0 0] 60)) (.cells #[.string ⟨f.toArray⟩, .slice none 0 0, .slice none 0 0] 60)
      simpa using this
  have HB3 : Hid (Below w.heap.size w W3) := by
    show Below _ _ _
    rw [← hW3]
    exact (((Below.refl _ _).alloc (Nat.le_refl _) _).alloc (by simp) _).alloc (by simp; omega) _
  try rw [hW3]
  clear hW3
  have HK := hidd hk0
  clear hk0
  have hz3 := HK.out.2.2.2
  have q1 : W3.cell? ⟨w.heap.size, 1, none⟩ = some (.slice at_ tx.length ct) := blkc HK.out.1 1
  have HC1 := hidd (toTx_any at_ ct tx W3 hxl (HT.out.below HB3.out))
  go_wp2_with fail
  refine HC1.out.mono ?_
  rintro e w4 ⟨rfl, hr4, hb4⟩
  have HR4 := hidd hr4
  have HB4 := hidd (HB3.out.trans (hb4.mono HB3.out.size))
  have HK0 := hidd (blko HK.out.1 hb4)
  have HK1 := hidd (blko HK.out.2.1 hb4)
  have HK2 := hidd (blko HK.out.2.2.1 hb4)
  have c21 : w4.cell? ⟨w.heap.size + 1 + 1, 1, none⟩ = some (.slice none 0 0) := blkc HK2.out 1
  have f21 : w4.frozen? ⟨w.heap.size + 1 + 1, 1, none⟩ = false := frozen_of_row w4 _ 1 _ _ HK2.out
  rw [hz3] at HR4
  try rw [hz3]
  have hz4 : w.heap.size + 3 ≤ w4.heap.size := by have := hb4.size; omega
  clear hr4 hb4 HC1 q1 HB3
  dsimp only
  go_upto_region 4 with fail
  obtain ⟨w5, hw5⟩ : ∃ w5, w4.setCell ⟨w.heap.size + 1 + 1, 1, none⟩ (.slice (some ⟨w.heap.size + 3, 0, none⟩) tx.length tx.length) = w5 := ⟨_, rfl⟩
  have k0 := heap_set_other w4 (w.heap.size + 1 + 1) 1 (.slice (some ⟨w.heap.size + 3, 0, none⟩) tx.length tx.length) w.heap.size (by omega)
  have k1 := heap_set_other w4 (w.heap.size + 1 + 1) 1 (.slice (some ⟨w.heap.size + 3, 0, none⟩) tx.length tx.length) (w.heap.size + 1) (by omega)
  have k2 : (w4.setCell ⟨w.heap.size + 1 + 1, 1, none⟩ (.slice (some ⟨w.heap.size + 3, 0, none⟩) tx.length tx.length)).heap[w.heap.size + 1 + 1]? = some (.cells #[.string ⟨f.toArray⟩, .slice (some ⟨w.heap.size + 3, 0, none⟩) tx.length tx.length, .slice none 0 0] 60) := blk_setk HK2.out 1 (.slice (some ⟨w.heap.size + 3, 0, none⟩) tx.length tx.length)
  have r5 : RowTx (w4.setCell ⟨w.heap.size + 1 + 1, 1, none⟩ (.slice (some ⟨w.heap.size + 3, 0, none⟩) tx.length tx.length)) (w.heap.size + 3) tx := HR4.out.keep (heap_set_other w4 (w.heap.size + 1 + 1) 1 (.slice (some ⟨w.heap.size + 3, 0, none⟩) tx.length tx.length) (w.heap.size + 3) (by omega))
  have b5 : Below w.heap.size w (w4.setCell ⟨w.heap.size + 1 + 1, 1, none⟩ (.slice (some ⟨w.heap.size + 3, 0, none⟩) tx.length tx.length)) := HB4.out.setCell (p := ⟨w.heap.size + 1 + 1, 1, none⟩) (by dsimp only; omega) _
  have z5 : (w4.setCell ⟨w.heap.size + 1 + 1, 1, none⟩ (.slice (some ⟨w.heap.size + 3, 0, none⟩) tx.length tx.length)).heap.size = w4.heap.size := by simp
  rw [hw5] at k0 k1 k2 r5 b5 z5
  try rw [hw5]
  clear hw5
  have HJ0 := hidd (k0.trans HK0.out)
  have HJ1 := hidd (k1.trans HK1.out)
  have HJ2 := hidd k2
  have HR5 := hidd r5
  have HB5 := hidd b5
  clear k0 k1 k2 r5 b5 HK0 HK1 HK2 HR4 HB4 HK c21 f21
  have q2 : w5.cell? ⟨w.heap.size, 2, none⟩ = some (.slice an nz.length cn) := blkc HJ0.out 2
  have HC2 := hidd (toNz_any an cn nz w5 hnl (HZ.out.below HB5.out))
  go_wp2_with fail
  refine HC2.out.mono ?_
  rintro e w6 ⟨rfl, hr6, hb6⟩
  have HR6 := hidd hr6
  have HR6t := hidd (HR5.out.below hb6)
  have HB6 := hidd (HB5.out.trans (hb6.mono HB5.out.size))
  have k1 := blko HJ1.out hb6
  have k2 := blko HJ2.out hb6
  have hz6 := hb6.size
  have c10 := blkc k1 0
  have c11 := blkc k1 1
  have c12 := blkc k1 2
  have c20 := blkc k2 0
  have c21 := blkc k2 1
  have c22 := blkc k2 2
  have f10 := frozen_of_row w6 _ 0 _ _ k1
  have f11 := frozen_of_row w6 _ 1 _ _ k1
  have f12 := frozen_of_row w6 _ 2 _ _ k1
  have f22 := frozen_of_row w6 _ 2 _ _ k2
  clear hr6 hb6 HC2 q2 HJ0 HJ1 HJ2 HR5 HB5 k1 k2
  obtain ⟨G, hG⟩ : ∃ G, w5.heap.size = G := ⟨_, rfl⟩
  rw [hG] at HR6 z5 hz6
  try rw [hG]
  clear hG
  dsimp only
  go_wp2_with fail
  refine bodyPost_ret (v := .agg #[.string ⟨f.toArray⟩, .slice (some ⟨w.heap.size + 3, 0, none⟩) tx.length tx.length, .slice (some ⟨G, 0, none⟩) nz.length nz.length]) (by simp [results, Tryz.results69, go_sem, *]) rfl ?_
  refine ⟨w.heap.size + 3, G, rfl, by omega, by omega, ?_, ?_, ?_⟩
  · refine HR6t.out.keep ?_
    iterate 4 rw [heap_set_other _ _ _ _ _ (by omega)]
  · refine HR6.out.keep ?_
    iterate 4 rw [heap_set_other _ _ _ _ _ (by omega)]
  · iterate 4 refine Below.setCell ?_ (by dsimp only; omega) _
    exact HB6.out
end Go.Proofs.YtgoklapafidpkaaGreatDoor

namespace Go.Proofs.YtgoklapafidpkaaGreatDoor
open Go Go.RowKit
set_option linter.unusedVariables false
set_option maxRecDepth 100000

theorem Tryz.infoVal : (Tryz.prog.info? 60).map (fun i => (i.zero, i.size, i.bytes)) = some (some (.agg #[.string ⟨#[]⟩, .slice none 0 0, .slice none 0 0]), 3, 64) := by kernel_rfl
theorem setTri (zs xs : List Value) (k n : Nat) (u v x : Value) (hz : zs.length = k * 3) (hx : xs.length = n * 3) (hk : k < n) : (((zs ++ xs.drop (k * 3)).set (k * 3) u).set (k * 3 + 1) v).set (k * 3 + 2) x = (zs ++ [u, v, x]) ++ xs.drop ((k + 1) * 3) := by
  have hd : xs.drop (k * 3) = xs[k * 3] :: xs[k * 3 + 1] :: xs[k * 3 + 2] :: xs.drop ((k + 1) * 3) := by
    rw [List.drop_eq_getElem_cons (by omega), List.drop_eq_getElem_cons (by omega), List.drop_eq_getElem_cons (by omega)]
    congr 3
    congr 1
    omega
  rw [hd, List.set_append_right _ _ (by omega), hz, Nat.sub_self, List.set_cons_zero, List.set_append_right _ _ (by omega), hz, Nat.add_sub_cancel_left, List.set_cons_succ, List.set_cons_zero, List.set_append_right _ _ (by omega), hz, Nat.add_sub_cancel_left, List.set_cons_succ, List.set_cons_succ, List.set_cons_zero]
  simp
/-- One value, as three cells tell it, all of it behind B. -/
def ValAt (w : World) (B : Nat) (c0 c1 c2 : Option Value) (v : Vl) : Prop := c0 = some (mkS v.1) ∧ (∃ gt ct, c1 = some (.slice (some ⟨gt, 0, none⟩) v.2.1.length ct) ∧ B < gt ∧ RowTx w gt v.2.1) ∧ ∃ gn cn, c2 = some (.slice (some ⟨gn, 0, none⟩) v.2.2.length cn) ∧ B < gn ∧ RowNz w gn v.2.2
theorem ValAt.keep {w w' : World} {B : Nat} {c0 c1 c2 : Option Value} {v : Vl} (h : ValAt w B c0 c1 c2 v) (hk : ∀ b, B < b → b < w.heap.size → w'.heap[b]? = w.heap[b]?) : ValAt w' B c0 c1 c2 v := by
  obtain ⟨h0, ⟨gt, ct, h1, h2, h3⟩, gn, cn, h4, h5, h6⟩ := h
  exact ⟨h0, ⟨gt, ct, h1, h2, h3.keep (hk gt h2 h3.lt)⟩, gn, cn, h4, h5, h6.keep (hk gn h5 h6.lt)⟩
def DocAt (w : World) (g : Nat) (V : List Vl) : Prop := ∃ cs, w.heap[g]? = some (Obj.cells cs 60) ∧ V.length * 3 ≤ cs.size ∧ ∀ j, j < V.length → ValAt w g cs[j * 3]? cs[j * 3 + 1]? cs[j * 3 + 2]? (V.getD j vl0)
theorem DocAt.lt {w : World} {g : Nat} {V : List Vl} (h : DocAt w g V) : g < w.heap.size := by
  obtain ⟨cs, h1, _⟩ := h
  exact (Array.getElem?_eq_some_iff.1 h1).1
theorem DocAt.keep {w w' : World} {g : Nat} {V : List Vl} (h : DocAt w g V) (hk : ∀ b, g ≤ b → b < w.heap.size → w'.heap[b]? = w.heap[b]?) : DocAt w' g V := by
  have hl := h.lt
  obtain ⟨cs, h1, h2, h3⟩ := h
  exact ⟨cs, (hk g (Nat.le_refl _) hl).trans h1, h2, fun j hj => (h3 j hj).keep fun b hb hb2 => hk b (by omega) hb2⟩
theorem DocAt.below {w w' : World} {g : Nat} {V : List Vl} (h : DocAt w g V) (hb : Below w.heap.size w w') : DocAt w' g V := h.keep fun b _ hb2 => hb.block b hb2
theorem DocAt.set {w : World} {g : Nat} {V : List Vl} (h : DocAt w g V) (B j : Nat) (u : Value) (hB : B < g) : DocAt (w.setCell ⟨B, j, none⟩ u) g V := h.keep fun b hb _ => heap_set_other w B j u b (by omega)
theorem DocAt.hold {w : World} {g : Nat} {V : List Vl} (h : DocAt w g V) : HoldV w (some ⟨g, 0, none⟩) V := by
  have hl := h.lt
  obtain ⟨cs, h1, h2, h3⟩ := h
  refine Or.inr ⟨g, 0, rfl, hl, fun i hi => ?_⟩
  obtain ⟨q0, ⟨gt, ct, q1, q2, q3⟩, gn, cn, q4, q5, q6⟩ := h3 i hi
  rw [Nat.zero_add, blkc h1, blkc h1, blkc h1]
  exact ⟨q0, ⟨_, ct, q1, q3.hold⟩, _, cn, q4, q6.hold⟩
def CellsV (w : World) (B : Nat) (zs : List Value) (V : List Vl) (k : Nat) : Prop := zs.length = k * 3 ∧ ∀ j, j < k → ValAt w B zs[j * 3]? zs[j * 3 + 1]? zs[j * 3 + 2]? (V.getD j vl0)
theorem CellsV.keep {w w' : World} {B : Nat} {zs : List Value} {V : List Vl} {k : Nat} (h : CellsV w B zs V k) (hk : ∀ b, B < b → b < w.heap.size → w'.heap[b]? = w.heap[b]?) : CellsV w' B zs V k := ⟨h.1, fun j hj => (h.2 j hj).keep hk⟩
theorem CellsV.snoc {w : World} {B : Nat} {zs : List Value} {V : List Vl} {k : Nat} {a b c : Value} (h : CellsV w B zs V k) (hv : ValAt w B (some a) (some b) (some c) (V.getD k vl0)) : CellsV w B (zs ++ [a, b, c]) V (k + 1) := by
  refine ⟨by rw [List.length_append, h.1]; simp; omega, fun j hj => ?_⟩
  have hl := h.1
  by_cases e : j = k
  · subst e
    rw [List.getElem?_append_right (by omega), List.getElem?_append_right (by omega), List.getElem?_append_right (by omega), hl, Nat.sub_self, show j * 3 + 1 - j * 3 = 1 by omega, show j * 3 + 2 - j * 3 = 2 by omega]
    exact hv
  · rw [List.getElem?_append_left (by omega), List.getElem?_append_left (by omega), List.getElem?_append_left (by omega)]
    exact h.2 j (by omega)
theorem docAt_of {w : World} {base g : Nat} {V : List Vl} {zs : List Value} (h : w.ownsRow base 60 3 (.slice (some ⟨g, 0, none⟩) V.length V.length) V.length zs) (hc : CellsV w g zs V V.length) : DocAt w g V := by
  rcases h.2 with ⟨h', _⟩ | ⟨g', cap, cur, h', _, hg, hc1, hc2, hc3, hc4⟩
  · simp at h'
  · simp only [Value.slice.injEq, Option.some.injEq, Addr.mk.injEq, and_true, true_and] at h'
    obtain ⟨rfl, rfl⟩ := h'
    refine ⟨cur, hg, by omega, fun j hj => ?_⟩
    have e : ∀ i, i < V.length * 3 → cur[i]? = zs[i]? := fun i hi => by
      have := h.cellAt i (by omega)
      rw [blkc hg] at this
      exact this
    rw [e _ (by omega), e _ (by omega), e _ (by omega)]
    exact hc.2 j hj
set_option maxHeartbeats 4000000 in
theorem toVals_any (a : Option Addr) (cap : Nat) (V : List Vl) (w : World) (hn : V.length ≤ 1048576) (hA : ∀ i, (V.getD i vl0).1.length ≤ 1048576 ∧ (V.getD i vl0).2.1.length ≤ 1048576 ∧ (V.getD i vl0).2.2.length ≤ 1048576) (hS : HoldV w a V) :
    Calls Tryz.prog 33 #[.slice a V.length cap] w fun e w' => e = .returned (.slice (some ⟨w.heap.size, 0, none⟩) V.length V.length) ∧ DocAt w' w.heap.size V ∧ Below w.heap.size w w' := by
  obtain ⟨i0, hi, hz0, hz1, hz2⟩ := info_parts Tryz.infoVal
  have HS := hidd hS
  have HA := hidd hA
  clear hS hA
  go_enter Tryz.func33, Tryz.ntmps33
  go_wp2_with (at_make; refine wpList_make_full _ rfl _ _ 35 rfl w.heap.size 60 i0 (.agg #[.string ⟨#[]⟩, .slice none 0 0, .slice none 0 0]) 3 Tryz.underlying35 hi hz0 hz1 _ _ _ _ V.length rfl rfl (by omega) (by omega) ?b2 ?b3 (Nat.le_refl _) ?_)
  case b2 => (first | omega | (rw [hz2]; omega))
  case b3 => unfold maxLen; omega
  intro w0 hown0 hgrow0
  generalize (madeCells #[.string ⟨#[]⟩, .slice none 0 0, .slice none 0 0] (V.length * 3)).toList = xs at hown0
  have hxl : xs.length = V.length * 3 := by have := hown0.1; omega
  have HO0 := hidd hown0
  have HB0 : Hid (Below w.heap.size w w0) := (Below.refl _ _).grown hgrow0 (Nat.le_refl _) (fun k h => by cases h)
  clear hown0 hgrow0
  go_wp2
  go_loopw [4] (fun i wr => ∃ (k : Nat) (zs : List Value), k ≤ V.length ∧ i = .int .i64 k ∧ wr.ownsRow w.heap.size 60 3 (.slice (some ⟨w.heap.size, 0, none⟩) V.length V.length) V.length (zs ++ xs.drop (k * 3)) ∧ CellsV wr w.heap.size zs V k ∧ Below w.heap.size w wr) (fun i _ => V.length - (intOf i).toNat)
  case atStart => exact ⟨0, [], Nat.zero_le _, rfl, HO0.out, ⟨rfl, fun j hj => absurd hj (by omega)⟩, HB0.out⟩
  case round =>
    obtain ⟨k, zs, hk, rfl, hown, hcs, hbel⟩ := hrel
    have HO := hidd hown
    have HB := hidd hbel
    have HC := hidd hcs
    have hrl : w.heap.size < wr.heap.size := own3_lt hown
    clear hcs
    by_cases hlt : k < V.length
    · obtain ⟨b, off, rfl, hbl, hc⟩ := (HS.out.below hbel).resolve_left (fun h => by rw [h] at hlt; simp at hlt)
      obtain ⟨c0, ⟨at_, ct, c1, hTx⟩, an, cn, c2, hZ⟩ := hc k hlt
      have hal := HA.out k
      clear hown hbel hc
      obtain ⟨s, hs⟩ : ∃ s, V.getD k vl0 = s := ⟨_, rfl⟩
      rw [hs] at c0 c1 c2 hTx hZ hal
      have Hks := hidd hs
      clear hs
      obtain ⟨f, tx, nz⟩ := s
      dsimp only at c0 c1 c2 hTx hZ hal
      have HV := hidd (toVal_any f at_ an ct cn tx nz wr hal.2.1 hal.2.2 hTx hZ)
      clear hTx hZ
      go_wp2_with fail
      refine HV.out.mono ?_
      rintro e w2 ⟨gt, gn, rfl, hgt, hgn, hrt, hrn, hb2⟩
      have hown2 := own3_below HO.out hb2
      have HB2 := hidd (HB.out.trans (hb2.mono HB.out.size))
      have HC2 := hidd (CellsV.snoc (a := mkS f) (b := .slice (some ⟨gt, 0, none⟩) tx.length tx.length) (c := .slice (some ⟨gn, 0, none⟩) nz.length nz.length) (HC.out.keep fun x _ hx => hb2.block x hx) (by rw [Hks.out]; exact ⟨rfl, ⟨gt, _, rfl, by omega, hrt⟩, gn, _, rfl, by omega, hrn⟩))
      have f1 := hown2.frozenAt (k * 3)
      have f2 := hown2.frozenAt (k * 3 + 1)
      have f3 := hown2.frozenAt (k * 3 + 2)
      have hzl := HC.out.1
      have hlen : (zs ++ xs.drop (k * 3)).length = V.length * 3 := by rw [List.length_append, hzl, List.length_drop]; omega
      have hex : ∀ j, j < V.length * 3 → ∃ u, w2.cell? ⟨w.heap.size, j, none⟩ = some u := fun j hj => by
        rw [hown2.cellAt j hj]
        exact ⟨_, List.getElem?_eq_getElem (by omega)⟩
      obtain ⟨u1, q1⟩ := hex (k * 3) (by omega)
      obtain ⟨u2, q2⟩ := hex (k * 3 + 1) (by omega)
      obtain ⟨u3, q3⟩ := hex (k * 3 + 2) (by omega)
      have HO2 := hidd hown2
      have HSet := hidd (setTri zs xs k V.length (mkS f) (.slice (some ⟨gt, 0, none⟩) tx.length tx.length) (.slice (some ⟨gn, 0, none⟩) nz.length nz.length) hzl hxl hlt)
      clear hown2 hb2 hex hlen HO HB c0 c1 c2 HC HV hrt hrn
      go_wp2
      go_roundw
      case rel =>
        have s0 := HO2.out.stored (k * 3) (mkS f)
        have s1 := s0.1.stored (k * 3 + 1) (.slice (some ⟨gt, 0, none⟩) tx.length tx.length)
        have s2 := s1.1.stored (k * 3 + 2) (.slice (some ⟨gn, 0, none⟩) nz.length nz.length)
        have st := s2.1
        rw [HSet.out] at st
        refine ⟨k + 1, _, by omega, by go_num, st, HC2.out.keep (fun x hx _ => ?_), ((HB2.out.setCell (p := ⟨w.heap.size, k * 3, none⟩) (Nat.le_refl _) _).setCell (p := ⟨w.heap.size, k * 3 + 1, none⟩) (Nat.le_refl _) _).setCell (p := ⟨w.heap.size, k * 3 + 2, none⟩) (Nat.le_refl _) _⟩
        rw [heap_set_other _ _ _ _ _ (by omega), heap_set_other _ _ _ _ _ (by omega), heap_set_other _ _ _ _ _ (by omega)]
      case measure => simp [intOf]; omega
    · obtain rfl : k = V.length := by omega
      have HF := HO.out
      rw [List.drop_of_length_le (by omega), List.append_nil] at HF
      have HD := hidd (docAt_of HF HC.out)
      clear HF hown hbel
      go_wp2
      go_ret
      exact ⟨rfl, HD.out, HB.out⟩
end Go.Proofs.YtgoklapafidpkaaGreatDoor

namespace Go.Proofs.YtgoklapafidpkaaGreatDoor
open Go Go.RowKit
set_option linter.unusedVariables false
set_option maxRecDepth 100000

set_option maxHeartbeats 4000000 in
theorem toDoc_any (id : List UInt8) (a : Option Addr) (cap : Nat) (V : List Vl) (w : World) (hn : V.length ≤ 1048576) (hA : ∀ i, (V.getD i vl0).1.length ≤ 1048576 ∧ (V.getD i vl0).2.1.length ≤ 1048576 ∧ (V.getD i vl0).2.2.length ≤ 1048576) (h : HoldV w a V) :
    Calls Tryz.prog 10 #[.agg #[.string ⟨id.toArray⟩, .slice a V.length cap]] w fun e w' => ∃ g, e = .returned (.agg #[.string ⟨id.toArray⟩, .slice (some ⟨g, 0, none⟩) V.length V.length]) ∧ w.heap.size ≤ g ∧ DocAt w' g V ∧ Below w.heap.size w w' := by
  have HH := hidd h
  clear h
  go_enter Tryz.func10, Tryz.ntmps10
  go_upto_region 3 with fail
  obtain ⟨W3, hW3⟩ : ∃ W3, ((w.alloc (.cells #[.string ⟨id.toArray⟩, .slice a V.length cap] 27)).alloc (.cells #[.string ⟨#[]⟩, .slice none 0 0] 37)).alloc (.cells #[.string ⟨id.toArray⟩, .slice none 0 0] 37) = W3 := ⟨_, rfl⟩
  have hk0 : W3.heap[w.heap.size]? = some (.cells #[.string ⟨id.toArray⟩, .slice a V.length cap] 27) ∧ W3.heap[w.heap.size + 1]? = some (.cells #[.string ⟨#[]⟩, .slice none 0 0] 37) ∧ W3.heap[w.heap.size + 1 + 1]? = some (.cells #[.string ⟨id.toArray⟩, .slice none 0 0] 37) ∧ W3.heap.size = w.heap.size + 3 := by
    rw [← hW3]
    have h2 := box_two w (.cells #[.string ⟨id.toArray⟩, .slice a V.length cap] 27) (.cells #[.string ⟨#[]⟩, .slice none 0 0] 37)
    refine ⟨?_, ?_, ?_, by simp⟩
    · rw [Below.heap_alloc _ _ _ (by simp; omega)]; exact h2.1
    · rw [Below.heap_alloc _ _ _ (by simp)]; exact h2.2
    · have := heap_alloc_new ((w.alloc (.cells #[.string ⟨id.toArray⟩, .slice a V.length cap] 27)).alloc (.cells #[.string ⟨#[]⟩, .slice none 0 0] 37)) (.cells #[.string ⟨id.toArray⟩, .slice none 0 0] 37)
      simpa using this
  have HB3 : Hid (Below w.heap.size w W3) := by
    show Below _ _ _
    rw [← hW3]
    exact (((Below.refl _ _).alloc (Nat.le_refl _) _).alloc (by simp) _).alloc (by simp; omega) _
  try rw [hW3]
  clear hW3
  have HK := hidd hk0
  clear hk0
  have q1 : W3.cell? ⟨w.heap.size, 1, none⟩ = some (.slice a V.length cap) := blkc HK.out.1 1
  have HT := hidd (toVals_any a cap V W3 hn hA (HH.out.below HB3.out))
  clear hA
  go_wp2_with fail
  refine HT.out.mono ?_
  rintro e w4 ⟨rfl, hd4, hb4⟩
  have HD := hidd hd4
  have hz3 := HK.out.2.2.2
  have k1 := blko HK.out.2.1 hb4
  have k2 := blko HK.out.2.2.1 hb4
  have HB4 := hidd (HB3.out.trans (hb4.mono HB3.out.size))
  have c10 := blkc k1 0
  have c11 := blkc k1 1
  have c20 := blkc k2 0
  have c21 := blkc k2 1
  have f10 := frozen_of_row w4 _ 0 _ _ k1
  have f11 := frozen_of_row w4 _ 1 _ _ k1
  have f21 := frozen_of_row w4 _ 1 _ _ k2
  clear hd4 hb4 HB3 q1 HT
  rw [hz3] at HD
  try rw [hz3]
  clear k1 k2 HK
  dsimp only
  go_wp2_with fail
  refine bodyPost_ret (v := .agg #[.string ⟨id.toArray⟩, .slice (some ⟨w.heap.size + 3, 0, none⟩) V.length V.length]) (by simp [results, Tryz.results10, go_sem, *]) rfl ?_
  refine ⟨w.heap.size + 3, rfl, by omega, ?_, ?_⟩
  · iterate 3 refine DocAt.set ?_ _ _ _ (by omega)
    exact HD.out
  · iterate 3 refine Below.setCell ?_ (by dsimp only; omega) _
    exact HB4.out
set_option maxHeartbeats 1000000 in
theorem eqTx_any (a1 a2 : Option Addr) (c1 c2 : Nat) (l : List (List UInt8)) (w : World) (hn : l.length ≤ 1048576) (h1 : HoldTx w a1 l) (h2 : HoldTx w a2 l) :
    Calls Tryz.prog 116 #[.slice a1 l.length c1, .slice a2 l.length c2] w fun e w' => e = .returned (.bool true) ∧ Below w.heap.size w w' := by
  have H1 := hidd h1
  have H2 := hidd h2
  clear h1 h2
  go_enter Tryz.func116, Tryz.ntmps116
  go_wp2
  go_loopw [5] (fun i wr => ∃ k : Nat, k ≤ l.length ∧ i = .int .i64 k ∧ Below w.heap.size w wr) (fun i _ => l.length - (intOf i).toNat)
  case atStart => exact ⟨0, Nat.zero_le _, rfl, Below.refl _ _⟩
  case round =>
    obtain ⟨k, hk, rfl, hbel⟩ := hrel
    have HB := hidd hbel
    by_cases hlt : k < l.length
    · obtain ⟨b1, o1, rfl, hb1, hc1⟩ := (H1.out.below hbel).resolve_left (fun h => by rw [h] at hlt; simp at hlt)
      obtain ⟨b2, o2, rfl, hb2, hc2⟩ := (H2.out.below hbel).resolve_left (fun h => by rw [h] at hlt; simp at hlt)
      have g1 := hc1 k hlt
      have g2 := hc2 k hlt
      clear hc1 hc2 hbel
      generalize l.getD k [] = t at g1 g2
      go_wp2
      go_quiet (fail)
      go_wp2
      go_roundw
      case rel => exact ⟨k + 1, by omega, by go_num, below_drewN HB.out _⟩
      case measure => simp [intOf]; omega
    · clear hbel
      go_wp2
      go_ret
      exact ⟨rfl, HB.out⟩
set_option maxHeartbeats 1000000 in
theorem eqNz_any (a1 a2 : Option Addr) (c1 c2 : Nat) (l : List Int) (w : World) (hn : l.length ≤ 1048576) (h1 : HoldZ w a1 l) (h2 : HoldZ w a2 l) :
    Calls Tryz.prog 117 #[.slice a1 l.length c1, .slice a2 l.length c2] w fun e w' => e = .returned (.bool true) ∧ Below w.heap.size w w' := by
  have H1 := hidd h1
  have H2 := hidd h2
  clear h1 h2
  go_enter Tryz.func117, Tryz.ntmps117
  go_wp2
  go_loopw [5] (fun i wr => ∃ k : Nat, k ≤ l.length ∧ i = .int .i64 k ∧ Below w.heap.size w wr) (fun i _ => l.length - (intOf i).toNat)
  case atStart => exact ⟨0, Nat.zero_le _, rfl, Below.refl _ _⟩
  case round =>
    obtain ⟨k, hk, rfl, hbel⟩ := hrel
    have HB := hidd hbel
    by_cases hlt : k < l.length
    · obtain ⟨b1, o1, rfl, hb1, hc1⟩ := (H1.out.below hbel).resolve_left (fun h => by rw [h] at hlt; simp at hlt)
      obtain ⟨b2, o2, rfl, hb2, hc2⟩ := (H2.out.below hbel).resolve_left (fun h => by rw [h] at hlt; simp at hlt)
      have g1 := hc1 k hlt
      have g2 := hc2 k hlt
      clear hc1 hc2 hbel
      generalize l.getD k 0 = t at g1 g2
      go_wp2
      go_quiet (fail)
      go_wp2
      go_roundw
      case rel => exact ⟨k + 1, by omega, by go_num, below_drewN HB.out _⟩
      case measure => simp [intOf]; omega
    · clear hbel
      go_wp2
      go_ret
      exact ⟨rfl, HB.out⟩
end Go.Proofs.YtgoklapafidpkaaGreatDoor
