import Derived.Test.YtoinajfliogcdaaDoorNearJ20
import Derived.Test.YtoinajfliogcdaaDoorNearJ21
import Derived.Lib.OthersKept
import Derived.Test.YtoinajfliogcdaaDoorNearJ19
namespace Go.Proofs.YtoinajfliogcdaaDoor
open Go Go.RowKit
set_option linter.unusedVariables false

theorem decCode_ne (s : ByteArray) (h : ¬ decCode s = 0) : decList s = [] := by
 unfold decCode at h
 unfold decList decL
 by_cases h1 : 65536 < s.size
 ·rw [if_pos h1]
 ·rw [if_neg h1] at h ⊢
  by_cases h2 : validB s = true
  ·rw [if_pos h2] at h; exact absurd rfl h
  ·rw [if_neg h2]
theorem decCode_eq (s : ByteArray) (h : decCode s = 0) : decList s = runes s ∧ s.size ≤ 65536 := by
 unfold decCode at h
 unfold decList decL
 by_cases h1 : 65536 < s.size
 ·rw [if_pos h1] at h; omega
 ·rw [if_neg h1] at h ⊢
  by_cases h2 : validB s = true
  ·rw [if_pos h2]; exact ⟨rfl, by omega⟩
  ·rw [if_neg h2] at h; omega
set_option maxHeartbeats 2000000 in
set_option maxRecDepth 100000 in
theorem implDecode_any (s : ByteArray) (w : World) (hs : s.size ≤ 1048576) (hT : Tabs w) :
  Calls Tryd.prog 38 #[.string s] w fun e w' => ∃ v, e = .returned (.tuple #[v, .int .i64 (decCode s)]) ∧ w'.ownsRow w.heap.size 3 1 v (decList s).length ((decList s).map (Value.int .i64)) ∧ Below w.heap.size w w' := by
 have HT := hidd hT
 clear hT
 obtain ⟨i0, hi, hz0, hz1, hz2⟩ := info_parts Tryd.infoInt
 by_cases hc : decCode s = 0
 ·have HC := hidd hc
  have HL := hidd (decCode_eq s hc).1
  have hsz := (decCode_eq s hc).2
  clear hc
  have hrc := Lib.runeCount_le s
  go_enter Tryd.func38, Tryd.ntmps38
  go_wp2_with fail
  refine (textCode_any s _ hs HT.out).mono ?_
  rintro e w1 ⟨rfl, hb1⟩
  rw [HC.out]
  go_wp2_with fail
  refine (Tryd.utf8_RuneCountInString s _ (by omega)).mono ?_
  rintro e w2 ⟨rfl, q, rfl⟩
  have hb2 : Below w.heap.size w (w1.iter s q) := hb1.alloc hb1.size _
  generalize w1.iter s q = w2 at hb2 ⊢
  clear hb1
  generalize Lib.runeCount s = rc at *
  go_wp2_with (at_make; refine wpList_make_own _ rfl _ _ 30 rfl w.heap.size 3 i0 (.int .i64 0) 1 Tryd.underlying30 hi hz0 hz1 _ _ _ rc rfl rfl (by omega) ?b2 ?b3 hb2.size ?_)
  case b2 => rw [hz2]; omega
  case b3 => unfold maxLen; omega
  intro w3 hown3 hgrow3
  have hb3 : Below w.heap.size w w3 := hb2.grown hgrow3 hb2.size (fun k h => by cases h)
  generalize (Value.slice (some ⟨w2.heap.size, 0, none⟩) 0 rc) = v3 at hown3 ⊢
  have hI : w.heap.size ≤ w3.heap.size := hb3.size
  have hit0 := hidd (World.iter_heap w3 s 0)
  have hb4 : Below w.heap.size w (w3.iter s 0) := hb3.alloc hb3.size _
  have hown4 : (w3.iter s 0).ownsRow w.heap.size 3 1 v3 0 [] := hown3.alloc _
  clear hb2 hgrow3 hown3 hb3
  go_wp2
  generalize w3.iter s 0 = w4 at hit0 hb4 hown4 ⊢
  generalize w3.heap.size = B at *
  go_loopw [5] (fun v wr => ∃ (p f : Nat) (acc : List Int), wr.ownsRow w.heap.size 3 1 v acc.length (acc.map (Value.int .i64)) ∧ wr.heap[B]? = some (.stringIter s p) ∧ Below w.heap.size w wr ∧ acc ++ runesFrom s f p = runes s ∧ s.size ≤ p + f) (fun _ wr => s.size - wr.iterPos B)
  case atStart => exact ⟨0, s.size, [], hown4, hit0.out, hb4, rfl, by omega⟩
  case round =>
   obtain ⟨p, f, acc, hown, hit, hbel, hacc, hf⟩ := hrel
   have hlen : acc.length ≤ s.size := by have := congrArg List.length hacc; rw [List.length_append] at this; have := runes_le s; omega
   have HO := hidd hown
   clear hown hown4 hb4 hit0
   by_cases hlt : p < s.size
   ·have hnx : ∀ ty, (Instr.next (.pointer (some ⟨B, 0, none⟩)) true ty).run Tryd.prog wr = _ := fun ty => Lib.run_next_any_at wr B s p ty hit hlt
    have hw := width_le s p hlt
    have hr := rune_le s p
    have HO2 := hidd (own_iterAt HO.out hit (p + (Utf8.decode s p).2))
    have hit2 := Lib.iterAt_heap wr B s p (p + (Utf8.decode s p).2) hit
    have hbel2 := Lib.below_iterAt hbel (k := B) hI s (p + (Utf8.decode s p).2)
    have Hst : Hid (acc ++ [((Utf8.decode s p).1 : Int)] ++ runesFrom s (f - 1) (p + (Utf8.decode s p).2) = runes s) := by
     show _ = _
     obtain ⟨g, rfl⟩ : ∃ g, f = g + 1 := ⟨f - 1, by omega⟩
     rw [runesFrom_step s g p hlt] at hacc
     rw [← hacc]
     simp
    have Hpos := hidd (iterPos_of hit)
    have Hit2 := hidd hit2
    have HB2 := hidd hbel2
    have hzw : w.heap.size ≤ (wr.iterAt B s (p + (Utf8.decode s p).2)).heap.size := hbel2.size
    have hzB : B < (wr.iterAt B s (p + (Utf8.decode s p).2)).heap.size := (Array.getElem?_eq_some_iff.1 hit2).1
    clear hacc HO hit2 hbel2 hbel
    generalize (Utf8.decode s p).1 = r at *
    generalize (Utf8.decode s p).2 = n at *
    generalize wr.iterAt B s (p + n) = wi at *
    go_wp2_with (at_builtin; refine wpList_append_own _ rfl _ _ 30 rfl w.heap.size 3 i0 (.int .i64 0) 1 8 Tryd.underlying30 hi hz0 hz1 hz2 rfl (by decide) _ _ _ rfl (HO2.out.alloc _) ⟨wi.heap.size, 0, none⟩ 1 1 [.int .i64 (r : Int)] rfl rfl ?c1 ?c2 ?c3 ?c4 ?c5 ?_)
    case c1 =>
     intro j u hj
     match j, hj with
     | 0, hj => simp at hj; subst hj; simp [Addr.add]
    case c2 => intro u hu; simp at hu; subst hu; rfl
    case c3 => unfold maxLen; omega
    case c4 => omega
    case c5 => simp; omega
    intro v' w5 hown' hgrow hne
    have R : Hid (w5.ownsRow w.heap.size 3 1 v' (acc ++ [(r : Int)]).length ((acc ++ [(r : Int)]).map (Value.int .i64)) ∧ w5.heap[B]? = some (.stringIter s (p + n)) ∧ Below w.heap.size w w5) := by
     refine ⟨?_, ?_, (HB2.out.alloc hzw _).grown hgrow (by simp; omega) (own_block HO2.out)⟩
     ·rw [List.length_append, List.map_append]
      exact hown'
     ·rw [hgrow.block B (by simp; omega) (own_ne_iter HO2.out Hit2.out), Below.heap_alloc _ _ _ hzB]
      exact Hit2.out
    clear hown' hgrow HO2 Hit2 HB2
    go_wp2
    go_roundw
    case rel => exact ⟨p + n, f - 1, acc ++ [(r : Int)], R.out.1, R.out.2.1, R.out.2.2, Hst.out, by omega⟩
    case measure => rw [iterPos_of R.out.2.1, Hpos.out]; omega
   ·have hnx : ∀ ty, (Instr.next (.pointer (some ⟨B, 0, none⟩)) true ty).run Tryd.prog wr = _ := fun ty => Lib.run_next_end_at wr B s p ty hit hlt
    have HL2 : Hid (runes s = acc) := by show _ = _; rw [← hacc, runesFrom_end s f p hlt, List.append_nil]
    clear hacc hit
    go_wp2
    go_ret2
    rw [HL.out, HL2.out, HC.out]
    exact ⟨_, rfl, HO.out, hbel⟩
 ·have hcn : (decCode s != 0) = true := by rw [bne_iff_ne]; exact hc
  have HL := hidd (decCode_ne s hc)
  clear hc
  go_enter Tryd.func38, Tryd.ntmps38
  go_wp2_with fail
  refine (textCode_any s _ hs HT.out).mono ?_
  rintro e w1 ⟨rfl, hb1⟩
  go_wp2
  go_ret2
  rw [HL.out]
  exact ⟨_, rfl, World.ownsRow_nil _ _ _ _, hb1⟩
end Go.Proofs.YtoinajfliogcdaaDoor

namespace Go.Proofs.YtoinajfliogcdaaDoor
open Go Go.RowKit
set_option linter.unusedVariables false
set_option linter.unusedSimpArgs false
set_option maxRecDepth 100000

theorem stepP_neg (D : List PSt) (r : Int) : stepP D (-1) r = -1 := rfl
theorem stepP_nat (D : List PSt) (i : Nat) (hi : i < D.length) (r : Int) : stepP D (i : Int) r = match (D.getD i ps0).2.1.find? (fun a => a.1 == r) with | some a => a.2 | none => (D.getD i ps0).2.2 := by
 unfold stepP
 rw [if_neg (by omega), Int.toNat_natCast, List.getD_eq_getElem?_getD, List.getElem?_eq_getElem hi]
 rfl
theorem stepP_bd {D : List PSt} (hV : ValD D) {z : Int} (h : -1 ≤ z ∧ z < D.length) (r : Int) : -1 ≤ stepP D z r ∧ stepP D z r < D.length := by
 by_cases hz : z < 0
 ·obtain rfl : z = -1 := by omega
  rw [stepP_neg]
  have := hV.1
  omega
 ·obtain ⟨i, rfl⟩ : ∃ i : Nat, z = (i : Int) := ⟨z.toNat, by omega⟩
  have hi : i < D.length := by omega
  rw [stepP_nat D i hi]
  have hm : D.getD i ps0 ∈ D := by rw [List.getD_eq_getElem?_getD, List.getElem?_eq_getElem hi]; exact List.getElem_mem hi
  obtain ⟨⟨_, v1, _⟩, v2, v3⟩ := hV.2.2 _ hm
  cases hf : (D.getD i ps0).2.1.find? (fun a => a.1 == r) with
  | some a => exact (v1 a (List.mem_of_find?_eq_some hf)).2
  | none => exact ⟨v2, v3⟩
set_option maxHeartbeats 4000000 in
theorem nextD_any (c : Nat) (a : Option Addr) (D : List PSt) (z r : Int) (w : World) (hV : ValD D) (hz : -1 ≤ z ∧ z < D.length) (h : HDS w a D) :
  Calls Tryd.prog 94 #[.agg #[.slice a D.length c], .int .i64 z, .int .i64 r] w fun e w' => e = .returned (.int .i64 (stepP D z r)) ∧ Below w.heap.size w w' := by
 have hb0 : Below w.heap.size w (w.alloc (.cells #[.slice a D.length c] 27)) := (Below.refl _ _).alloc (Nat.le_refl _) _
 have hn0 := heap_alloc_new w (.cells #[.slice a D.length c] 27)
 have HB0 := hidd hb0
 by_cases hzn : z = -1
 ·subst hzn
  clear h hV hz hn0 hb0
  go_enter Tryd.func94, Tryd.ntmps94
  go_wp2_with fail
  go_ret
  exact ⟨rfl, HB0.out⟩
 ·obtain ⟨i, rfl⟩ : ∃ i : Nat, z = (i : Int) := ⟨z.toNat, by omega⟩
  have hi : i < D.length := by omega
  have hiz : (i : Int) < (D.length : Int) := by omega
  have hne : ((i : Int) == -1) = false := by simp
  obtain ⟨b, off, rfl, hb1, hc⟩ := (h.below hb0).resolve_left (fun e => by rw [e] at hi; simp at hi)
  obtain ⟨x0, ai, ci, x1, hx, x2⟩ := hc i hi
  have hm : D.getD i ps0 ∈ D := by rw [List.getD_eq_getElem?_getD, List.getElem?_eq_getElem hi]; exact List.getElem_mem hi
  obtain ⟨v1, v2, v3⟩ := hV.2.2 _ hm
  have HSt := hidd (stepP_nat D i hi r)
  have y0 : (w.alloc (.cells #[.slice (some ⟨b, off, none⟩) D.length c] 27)).cell? ⟨w.heap.size, 0, none⟩ = some (.slice (some ⟨b, off, none⟩) D.length c) := blkc hn0 0
  clear hc hm h hV hz hzn hn0 hb0 v2 v3
  generalize D.getD i ps0 = s at *
  obtain ⟨f, rs, z⟩ := s
  dsimp only at x0 x1 hx x2 v1 HSt
  generalize hW1 : w.alloc (.cells #[.slice (some ⟨b, off, none⟩) D.length c] 27) = W1 at *
  obtain ⟨W2, hW2⟩ : ∃ W2, W1.alloc (.cells #[.bool f, .slice ai rs.length ci, .int .i64 z] 95) = W2 := ⟨_, rfl⟩
  have hb2 : Below W1.heap.size W1 W2 := by rw [← hW2]; exact (Below.refl _ _).alloc (Nat.le_refl _) _
  have hn2 : W2.heap[W1.heap.size]? = some (.cells #[.bool f, .slice ai rs.length ci, .int .i64 z] 95) := by rw [← hW2]; exact heap_alloc_new _ _
  have HBs := hidd (bsf_any 128 (enters_of Tryd.func128 (by kernel_rfl) rfl) (fun a => a.1) r ai ci rs W2 v1.2.2 (hx.below hb2) (fun W _ x => next1_any x.1 x.2 r W) v1.1)
  have HFo := hidd (found_find rs r v1.1)
  have HBl := hidd (below_le (fun a => a.1) r rs)
  have y1 : W2.cell? ⟨W1.heap.size, 1, none⟩ = some (.slice ai rs.length ci) := blkc hn2 1
  have HN2 := hidd hn2
  have HX := hidd (hx.below hb2)
  have HB2 := hidd (HB0.out.trans (hb2.mono HB0.out.size))
  clear hx v1 hb2 hn2
  go_enter Tryd.func94, Tryd.ntmps94
  go_upto_region 4 with fail
  try rw [hW2]
  clear hW2 x0 x1 x2 hW1 y0
  go_wp2_with fail
  refine HBs.out.mono ?_
  rintro e w3 ⟨rfl, hb3⟩
  have y1' : w3.cell? ⟨W1.heap.size, 1, none⟩ = some (.slice ai rs.length ci) := blkc (blko HN2.out hb3) 1
  have y2' : w3.cell? ⟨W1.heap.size, 2, none⟩ = some (.int .i64 z) := blkc (blko HN2.out hb3) 2
  have HB3 := hidd (HB2.out.trans (hb3.mono HB2.out.size))
  have hbl := HBl.out
  have hx3 := HX.out.below hb3
  have hfo := HFo.out
  clear hb3 HBs y1 HFo HX HBl
  generalize below (fun a => a.1) r rs = Bw at *
  cases hf : rs.find? (fun a => a.1 == r) with
  | some p =>
   rw [hf] at hfo HSt
   obtain ⟨q1, q2⟩ := hfo
   dsimp only at HSt
   have hBl : Bw < rs.length := (List.getElem?_eq_some_iff.1 q2).1
   have hBz : (Bw : Int) < (rs.length : Int) := by omega
   obtain ⟨ba, oa, rfl, hba, hca⟩ := hx3.resolve_left (fun e => by rw [e] at hBl; simp at hBl)
   have u1 := (hca Bw hBl).2
   rw [List.getD_eq_getElem?_getD, q2, Option.getD_some] at u1
   rw [q1]
   clear hca q1 q2 hf
   go_wp2_with fail
   go_ret
   exact ⟨by rw [HSt.out]; rfl, HB3.out⟩
  | none =>
   rw [hf] at hfo HSt
   dsimp only at hfo HSt
   rw [hfo]
   clear hf hfo hx3
   go_wp2_with fail
   go_ret
   exact ⟨by rw [HSt.out]; rfl, HB3.out⟩
theorem finD_any (c : Nat) (a : Option Addr) (D : List PSt) (z : Int) (w : World) (hz : -1 ≤ z ∧ z < D.length) (h : HDS w a D) :
  Calls Tryd.prog 95 #[.agg #[.slice a D.length c], .int .i64 z] w fun e w' => e = .returned (.bool (finP D z)) ∧ Below w.heap.size w w' := by
 have hb0 : Below w.heap.size w (w.alloc (.cells #[.slice a D.length c] 27)) := (Below.refl _ _).alloc (Nat.le_refl _) _
 have hn0 := heap_alloc_new w (.cells #[.slice a D.length c] 27)
 have HB0 := hidd hb0
 by_cases hzn : z = -1
 ·subst hzn
  clear h hz hn0 hb0
  go_enter Tryd.func95, Tryd.ntmps95
  go_wp2_with fail
  go_ret
  exact ⟨rfl, HB0.out⟩
 ·obtain ⟨i, rfl⟩ : ∃ i : Nat, z = (i : Int) := ⟨z.toNat, by omega⟩
  have hi : i < D.length := by omega
  have hiz : (i : Int) < (D.length : Int) := by omega
  have hne : ((i : Int) != -1) = true := by simp
  obtain ⟨b, off, rfl, hb1, hc⟩ := (h.below hb0).resolve_left (fun e => by rw [e] at hi; simp at hi)
  obtain ⟨x0, ai, ci, x1, hx, x2⟩ := hc i hi
  have HFi : Hid (finP D (i : Int) = (D.getD i ps0).1) := by
   show _ = _
   unfold finP
   rw [if_neg (by omega), Int.toNat_natCast, List.getD_eq_getElem?_getD, List.getElem?_eq_getElem hi]
   rfl
  have y0 : (w.alloc (.cells #[.slice (some ⟨b, off, none⟩) D.length c] 27)).cell? ⟨w.heap.size, 0, none⟩ = some (.slice (some ⟨b, off, none⟩) D.length c) := blkc hn0 0
  clear hc h hz hzn hn0 hb0 x1 hx x2
  generalize (D.getD i ps0).1 = f at *
  go_enter Tryd.func95, Tryd.ntmps95
  go_wp2_with fail
  go_ret
  exact ⟨by rw [HFi.out]; rfl, HB0.out⟩
end Go.Proofs.YtoinajfliogcdaaDoor

namespace Go.Proofs.YtoinajfliogcdaaDoor
open Go Go.RowKit
set_option linter.unusedVariables false
set_option linter.unusedSimpArgs false
set_option maxRecDepth 100000

theorem fold_neg (D : List PSt) : ∀ (l : List Int), l.foldl (stepP D) (-1) = -1
 | [] => rfl
 | x :: l => by rw [List.foldl_cons, stepP_neg, fold_neg D l]
set_option maxHeartbeats 4000000 in
theorem accepts_any (c : Nat) (a : Option Addr) (D : List PSt) (s : ByteArray) (w : World) (hs : s.size ≤ 1048576) (hV : ValD D) (h : HDS w a D) :
  Calls Tryd.prog 51 #[.agg #[.slice a D.length c], .string s] w fun e w' => e = .returned (.bool (finP D ((runes s).foldl (stepP D) 0))) ∧ Below w.heap.size w w' := by
 have hb0 : Below w.heap.size w (w.alloc (.cells #[.slice a D.length c] 27)) := (Below.refl _ _).alloc (Nat.le_refl _) _
 have hn0 := heap_alloc_new w (.cells #[.slice a D.length c] 27)
 have hz0 : w.heap.size < (w.alloc (.cells #[.slice a D.length c] 27)).heap.size := by simp
 have HB0 := hidd hb0
 have HV := hidd hV
 have HH := hidd (h.below hb0)
 have HN0 := hidd hn0
 have hD1 := hV.1
 have hD2 := hV.2.1
 clear h hV hb0 hn0
 go_enter Tryd.func51, Tryd.ntmps51
 go_upto_region 2 with fail
 generalize w.alloc (.cells #[.slice a D.length c] 27) = W1 at *
 have hit0 := hidd (World.iter_heap W1 s 0)
 have HB1 : Hid (Below W1.heap.size W1 (W1.iter s 0)) := (Below.refl _ _).alloc (Nat.le_refl _) _
 have Hz0 := hidd hz0
 clear hz0
 go_wp2
 generalize W1.iter s 0 = W2 at *
 obtain ⟨B, hB⟩ : ∃ B, W1.heap.size = B := ⟨_, rfl⟩
 rw [hB] at hit0
 simp only [hB]
 have hBge := Nat.le_of_eq hB
 clear hB
 go_loopw [5] (fun av wr => ∃ (p f : Nat) (acc : List Int) (z : Int), av = .int .i64 z ∧ acc.foldl (stepP D) 0 = z ∧ -1 ≤ z ∧ z < D.length ∧ wr.heap[B]? = some (.stringIter s p) ∧ Below W1.heap.size W1 wr ∧ acc ++ runesFrom s f p = runes s ∧ s.size ≤ p + f) (fun _ wr => s.size - wr.iterPos B)
 case atStart => exact ⟨0, s.size, [], 0, rfl, rfl, by omega, by omega, hit0.out, HB1.out, rfl, by omega⟩
 case round =>
  obtain ⟨p, f, acc, z, rfl, hac, hz1, hz2, hit, hbel, hacc, hf⟩ := hrel
  have HAc := hidd hac
  clear hac hit0 HB1
  by_cases hlt : p < s.size
  ·have hnx : ∀ ty, (Instr.next (.pointer (some ⟨B, 0, none⟩)) true ty).run Tryd.prog wr = _ := fun ty => Lib.run_next_any_at wr B s p ty hit hlt
   have hw := width_le s p hlt
   have hr := rune_le s p
   have hit2 := Lib.iterAt_heap wr B s p (p + (Utf8.decode s p).2) hit
   have hbel2 := Lib.below_iterAt hbel (k := B) hBge s (p + (Utf8.decode s p).2)
   have Hst : Hid (acc ++ [((Utf8.decode s p).1 : Int)] ++ runesFrom s (f - 1) (p + (Utf8.decode s p).2) = runes s) := by
    show _ = _
    obtain ⟨g, rfl⟩ : ∃ g, f = g + 1 := ⟨f - 1, by omega⟩
    rw [runesFrom_step s g p hlt] at hacc
    rw [← hacc]
    simp
   have Hpos := hidd (iterPos_of hit)
   have Hit2 := hidd hit2
   have HB2 := hidd hbel2
   clear hacc hit2 hbel2 hbel
   generalize (Utf8.decode s p).1 = r at *
   generalize (Utf8.decode s p).2 = n at *
   generalize wr.iterAt B s (p + n) = wi at *
   have y0 : wi.cell? ⟨w.heap.size, 0, none⟩ = some (.slice a D.length c) := blkc (blko HN0.out HB2.out) 0
   have HNx := hidd (nextD_any c a D z (r : Int) wi HV.out ⟨hz1, hz2⟩ (HH.out.below HB2.out))
   have HSb := hidd (stepP_bd HV.out ⟨hz1, hz2⟩ (r : Int))
   have HFo : Hid ((acc ++ [(r : Int)]).foldl (stepP D) 0 = stepP D z (r : Int)) := by show _ = _; rw [List.foldl_append, HAc.out]; rfl
   generalize stepP D z (r : Int) = z2 at *
   go_wp2_with fail
   refine HNx.out.mono ?_
   rintro e w5 ⟨rfl, hb5⟩
   have HB5 := hidd (HB2.out.trans (hb5.mono HB2.out.size))
   have Hit5 : Hid (w5.heap[B]? = some (.stringIter s (p + n))) := by
    show _ = _
    rw [hb5.block B (Array.getElem?_eq_some_iff.1 Hit2.out).1]
    exact Hit2.out
   have hzb := HSb.out
   clear hb5 HNx y0
   by_cases hneg : z2 = -1
   ·subst hneg
    have HRun : Hid ((runes s).foldl (stepP D) 0 = -1) := by
     show _ = _
     rw [← Hst.out, List.foldl_append, HFo.out, fold_neg]
    have y5 : w5.cell? ⟨w.heap.size, 0, none⟩ = some (.slice a D.length c) := blkc (blko HN0.out HB5.out) 0
    have HFi := hidd (finD_any c a D (-1) w5 ⟨by omega, by omega⟩ (HH.out.below HB5.out))
    go_wp2_with fail
    refine HFi.out.mono ?_
    rintro e w6 ⟨rfl, hb6⟩
    have HB6 := hidd (HB0.out.trans ((HB5.out.trans (hb6.mono HB5.out.size)).mono HB0.out.size))
    clear hb6
    go_wp2_with fail
    go_ret
    exact ⟨by rw [HRun.out]; rfl, HB6.out⟩
   ·have hne : (z2 == -1) = false := by simpa using hneg
    go_wp2_with fail
    go_roundw
    case rel => exact ⟨p + n, f - 1, acc ++ [(r : Int)], z2, rfl, HFo.out, hzb.1, hzb.2, Hit5.out, HB5.out, Hst.out, by omega⟩
    case measure =>
     rw [iterPos_of Hit5.out, Hpos.out]
     omega
  ·have hnx : ∀ ty, (Instr.next (.pointer (some ⟨B, 0, none⟩)) true ty).run Tryd.prog wr = _ := fun ty => Lib.run_next_end_at wr B s p ty hit (by omega)
   have HRun : Hid ((runes s).foldl (stepP D) 0 = z) := by
    show _ = _
    rw [runesFrom_end s f p hlt, List.append_nil] at hacc
    rw [← hacc]
    exact HAc.out
   have y5 : wr.cell? ⟨w.heap.size, 0, none⟩ = some (.slice a D.length c) := blkc (blko HN0.out hbel) 0
   have HFi := hidd (finD_any c a D z wr ⟨hz1, hz2⟩ (HH.out.below hbel))
   have HBb := hidd (HB0.out.trans (hbel.mono HB0.out.size))
   clear hacc hit hbel
   go_wp2_with fail
   refine HFi.out.mono ?_
   rintro e w6 ⟨rfl, hb6⟩
   have HB6 := hidd (HBb.out.trans (hb6.mono HBb.out.size))
   clear hb6
   go_wp2_with fail
   go_ret
   exact ⟨by rw [HRun.out]; rfl, HB6.out⟩
set_option maxHeartbeats 4000000 in
theorem Accepts_any (c : Nat) (a : Option Addr) (D : List PSt) (s : ByteArray) (w : World) (hs : s.size ≤ 65536) (hc : decCode s = 0) (hV : ValD D) (h : HDS w a D) (hT : Tabs w) :
  Calls Tryd.prog 14 #[.agg #[.slice a D.length c], .string s] w fun e w' => e = .returned (.tuple #[.bool (finP D ((runes s).foldl (stepP D) 0)), .int .i64 0]) ∧ Below w.heap.size w w' := by
 have hb0 : Below w.heap.size w (w.alloc (.cells #[.slice a D.length c] 27)) := (Below.refl _ _).alloc (Nat.le_refl _) _
 have hn0 := heap_alloc_new w (.cells #[.slice a D.length c] 27)
 have HB0 := hidd hb0
 have HV := hidd hV
 have HH := hidd (h.below hb0)
 have HN0 := hidd hn0
 have HT := hidd (hT.below hb0)
 have HC := hidd hc
 have hsz : ¬ (65536 : Int) < (s.size : Int) := by omega
 have dsz : decide ((65536 : Int) < (s.size : Int)) = false := decide_eq_false hsz
 clear h hV hb0 hn0 hT hc
 go_enter Tryd.func14, Tryd.ntmps14
 go_upto_region 3 with fail
 generalize w.alloc (.cells #[.slice a D.length c] 27) = W1 at *
 have y0 : W1.cell? ⟨w.heap.size, 0, none⟩ = some (.slice a D.length c) := blkc HN0.out 0
 have HOk := hidd (dfaOK_any c a D W1 HV.out HH.out)
 go_wp2_with fail
 refine HOk.out.mono ?_
 rintro e w2 ⟨rfl, hb2⟩
 have HN2 := hidd (blko HN0.out hb2)
 have HH2 := hidd (HH.out.below hb2)
 have HB2 := hidd (HB0.out.trans (hb2.mono HB0.out.size))
 have HTc := hidd (textCode_any s w2 (by omega) (HT.out.below hb2))
 clear hb2 HOk y0 HN0 HH HB0 HT
 go_wp2_with fail
 refine HTc.out.mono ?_
 rintro e w3 ⟨rfl, hb3⟩
 rw [HC.out]
 have y3 : w3.cell? ⟨w.heap.size, 0, none⟩ = some (.slice a D.length c) := blkc (blko HN2.out hb3) 0
 have HAc := hidd (accepts_any c a D s w3 (by omega) HV.out (HH2.out.below hb3))
 have HB3 := hidd (HB2.out.trans (hb3.mono HB2.out.size))
 clear hb3 HTc HN2 HH2 HB2
 go_wp2_with fail
 refine HAc.out.mono ?_
 rintro e w4 ⟨rfl, hb4⟩
 have HB4 := hidd (HB3.out.trans (hb4.mono HB3.out.size))
 clear hb4
 obtain ⟨F, hF⟩ : ∃ F, finP D ((runes s).foldl (stepP D) 0) = F := ⟨_, rfl⟩
 have HF := hidd hF
 try rw [hF]
 clear hF
 go_wp2_with fail
 go_ret2
 exact ⟨by rw [HF.out]; rfl, HB4.out⟩
end Go.Proofs.YtoinajfliogcdaaDoor
