import Derived.Test.YtecbjhakkebdmadDoorSrc3
import Derived.Lib.AppendStr
namespace Go.Proofs.YtecbjhakkebdmadDoor
open Go Go.RowKit
set_option linter.unusedVariables false

set_option maxHeartbeats 1000000 in
theorem repeat_any (t : ByteArray) (N : Nat) (w : World) (ht : t.size ≤ 16) (hN : N ≤ 100000) :
    Calls Tryd.prog 14 #[.string t, .int .i64 (N : Int)] w fun e w' => ∃ r : ByteArray, e = .returned (.string r) ∧ r.size ≤ 16 * N ∧ Below w.heap.size w w' := by
  obtain ⟨i0, hi, hz0, hz1, hz2⟩ := info_parts Tryd.info5
  go_enter Tryd.func14, Tryd.ntmps14
  go_wp2
  go_loopw [5, 6] (fun v i wr => ∃ (k : Nat) (L : List UInt8), k ≤ N ∧ i = .int .i64 (k : Int) ∧ L.length ≤ 16 * k ∧ wr.ownsRow w.heap.size 5 1 v L.length (Lib.byteCells L) ∧ Below w.heap.size w wr ∧ v ≠ .slice none 0 0) (fun _ i _ => N - (intOf i).toNat)
  case atStart => exact ⟨0, [], Nat.zero_le _, rfl, by simp, own_empty w _, (Below.refl _ _).alloc (Nat.le_refl _) _, by simp⟩
  case round =>
    obtain ⟨k, L, hk, rfl, hL, hown, hbel, hnn⟩ := hrel
    have HO := hidd hown
    have HB := hidd hbel
    have hzr := hbel.size
    by_cases hlt : k < N
    · clear hown hbel
      go_wp2_with (at_builtin; refine Lib.wpList_append_own_string _ rfl _ _ 22 9 rfl w.heap.size 5 i0 Tryd.underlying22 Tryd.underlying9 hi hz0 hz1 hz2 _ _ _ rfl HO.out t rfl ?c1 ?c2 hzr ?_)
      case c1 => unfold maxLen; omega
      case c2 => omega
      intro v' w2 hown' hgrow hne
      have R : Hid (w2.ownsRow w.heap.size 5 1 v' (L ++ t.data.toList).length (Lib.byteCells (L ++ t.data.toList)) ∧ Below w.heap.size w w2) := by
        refine ⟨?_, HB.out.grown hgrow hzr (own_block HO.out)⟩
        rw [List.length_append, ← Lib.size_eq, Lib.byteCells_append]
        exact hown'
      have hne' : Hid (v' ≠ .slice none 0 0) := hne
      clear hown' hgrow hne
      go_wp2
      go_roundw
      case rel => exact ⟨k + 1, L ++ t.data.toList, by omega, by go_num, by rw [List.length_append, ← Lib.size_eq]; omega, R.out.1, R.out.2, hne'.out⟩
      case measure => simp [intOf]; omega
    · rcases own_cases hown with ⟨rfl, h0⟩ | ⟨g, cap, rfl, hbg, hgl⟩
      · exact absurd rfl hnn
      · have hbs : BytesAt wr g L := fun j hj => by rw [hown.cellAt j (by omega)]; exact bytes_at L j hj
        have hcv := hbs.text L.length cap rfl
        clear hbs hown hbel
        go_wp2
        go_ret
        exact ⟨⟨L.toArray⟩, rfl, by rw [size_mk]; omega, HB.out⟩

set_option maxHeartbeats 1000000 in
theorem source_any (ao : Option Addr) (n cap : Nat) (w : World) (hn : n ≤ 1048576) :
    Calls Tryd.prog 12 #[.slice ao n cap] w fun e w' => e = .returned (.pointer (some ⟨w.heap.size, 0, none⟩)) ∧ SrcAt w' w.heap.size (.slice ao n cap) 0 ((n : Int) % 1000) ∧ w.grownBy w' none := by
  go_enter Tryd.func12, Tryd.ntmps12
  go_wp2
  go_ret
  exact ⟨rfl, heap_alloc_new w _, World.grownBy_alloc w _ none⟩

def CodeIn (w : World) (ao : Option Addr) (n : Nat) : Prop := ∀ j, j < n → ∃ blk off z, ao = some ⟨blk, off, none⟩ ∧ blk < w.heap.size ∧ 0 ≤ z ∧ z ≤ 255 ∧ w.cell? ⟨blk, off + j, none⟩ = some (.int .u8 z)
theorem CodeIn.code {w w' : World} {ao : Option Addr} {n : Nat} (h : CodeIn w ao n) (hg : w.grownBy w' none) : Code w' w.heap.size ao n := fun j hj => by
  obtain ⟨blk, off, z, h1, h2, h3, h4, h5⟩ := h j hj
  exact ⟨blk, off, z, h1, by omega, h3, h4, hg.cell h5 (by simp)⟩
theorem CodeIn.below {w w' : World} {ao : Option Addr} {n : Nat} (h : CodeIn w ao n) (hb : Below w.heap.size w w') : CodeIn w' ao n := fun j hj => by
  obtain ⟨blk, off, z, h1, h2, h3, h4, h5⟩ := h j hj
  exact ⟨blk, off, z, h1, Nat.lt_of_lt_of_le h2 hb.size, h3, h4, by rw [hb.cell (p := ⟨blk, off + j, none⟩) h2]; exact h5⟩
theorem below_src {w w1 w2 : World} (h : w.grownBy w1 none) (k : w1.grownBy w2 (some w.heap.size)) : Below w.heap.size w w2 :=
  ⟨k.os.trans h.os, k.tape.trans h.tape, k.output.trans h.output, Nat.le_trans h.size k.size, fun i hi => by rw [k.block i (Nat.lt_of_lt_of_le hi h.size) (by simp; omega), h.block i hi (by simp)]⟩

def intB : Value → Bool
  | .int .i64 z => chr z
  | _ => false
theorem intB_ok {v : Value} (h : intB v = true) : ∃ z, v = .int .i64 z ∧ chr z = true := by
  cases v with
  | int k z => cases k <;> first | exact ⟨z, rfl, h⟩ | cases h
  | _ => cases h
theorem table_int {w w1 : World} {C : Array Value} {t : TypeId} {b : Nat} (hg : (w.alloc (.cells C t)).grownBy w1 (some b)) (hb : b < w.heap.size) (hC : C.all intB = true) (j : Nat) (hj : j < C.size) :
    ∃ z, w1.cell? ⟨w.heap.size, j, none⟩ = some (.int .i64 z) ∧ chr z = true := by
  have h1 : (w.alloc (.cells C t)).cell? ⟨w.heap.size, j, none⟩ = some C[j] := by
    rw [World.cell?_alloc_at (hn := rfl)]
    exact Array.getElem?_eq_getElem hj
  have h2 := hg.cell h1 (by simp; omega)
  rw [Array.all_eq_true] at hC
  obtain ⟨z, hs, hm⟩ := intB_ok (hC j hj)
  rw [hs] at h2
  exact ⟨z, h2, hm⟩

set_option maxHeartbeats 4000000 in
set_option maxRecDepth 100000 in
theorem draw_any (ao : Option Addr) (n cap : Nat) (w : World) (hn : n ≤ 1048576) (hc : CodeIn w ao n) :
    Calls Tryd.prog 16 #[.slice ao n cap] w fun e w' => ∃ r : ByteArray, e = .returned (.string r) ∧ r.size ≤ 2000 ∧ Below w.heap.size w w' := by
  have HC := hidd hc
  clear hc
  go_enter Tryd.func16, Tryd.ntmps16
  go_wp2_with fail
  refine (source_any ao n cap _ hn).mono ?_
  rintro e w1 ⟨rfl, hs1, hg1⟩
  have HG1 := hidd hg1
  have HC1 := hidd (HC.out.code hg1)
  have HS1 := hidd hs1
  have hm0 : 0 ≤ (n : Int) % 1000 := Int.emod_nonneg _ (by omega)
  have hm1 : (n : Int) % 1000 < 2147483648 := by have := Int.emod_lt_of_pos (n : Int) (by omega : (0 : Int) < 1000); omega
  generalize (n : Int) % 1000 = sd0 at *
  clear hs1 hg1
  go_wp2_with fail
  refine (size_any w.heap.size ao n cap 0 sd0 40 _ hn (by omega) (by omega) HS1.out).mono ?_
  rintro e w' ⟨x, rfl, hx0, hx1, hw'⟩
  obtain rfl := hw'.symm
  clear hw'
  go_wp2_with fail
  refine (next_any w.heap.size ao n cap 0 sd0 (x + 1) _ hn (by omega) (by omega) (by omega) (by omega) hm0 hm1 HS1.out HC1.out).mono ?_
  rintro e w2 ⟨y, a2, sd2, rfl, hy0, hy1, ha2, ha2', hd2, hd2', hs2, hg2⟩
  obtain ⟨Y, rfl⟩ := Int.eq_ofNat_of_zero_le hy0
  have HS2 := hidd hs2
  have HG2 := hidd hg2
  have HC2 := hidd (HC1.out.kept hg2)
  clear hs2 hg2 HS1 HC1
  go_wp2_with fail
  refine (prose_any w.heap.size ao n cap a2 sd2 Y _ hn (by omega) (by omega) (by omega) hd2 hd2' HS2.out HC2.out).mono ?_
  rintro e w3 ⟨t, a3, sd3, rfl, htm, ha3, ha3', hd3, hd3', hs3, hg3⟩
  have HS3 := hidd hs3
  have HG3 := hidd (grown_trans HG2.out hg3)
  have HC3 := hidd (HC2.out.kept hg3)
  clear hs3 hg3 HS2 HC2 HG2
  have ht2 : t.size ≤ 1312 := by omega
  go_wp2_with fail
  refine (next_any w.heap.size ao n cap a3 sd3 12 _ hn (by omega) (by omega) (by omega) (by omega) hd3 hd3' HS3.out HC3.out).mono ?_
  rintro e w4 ⟨z, a4, sd4, rfl, hz0, hz1, ha4, ha4', hd4, hd4', hs4, hg4⟩
  have HS4 := hidd hs4
  have HG4 := hidd (grown_trans HG3.out hg4)
  have HC4 := hidd (HC3.out.kept hg4)
  clear hs4 hg4 HS3 HC3 HG3
  by_cases h0 : z = 0 ∨ z = 1
  · rcases h0 with rfl | rfl
    all_goals
      go_wp2_with fail
      refine (spoil_any w.heap.size ao n cap a4 sd4 t _ hn (by omega) (by omega) (by omega) hd4 hd4' HS4.out HC4.out).mono ?_
      rintro e w5 ⟨r, a5, sd5, rfl, hrm, _, _, _, _, _, hg5⟩
      have HB := hidd (below_src HG1.out (grown_trans HG4.out hg5))
      clear hg5
      go_wp2
      go_ret
      exact ⟨r, rfl, by omega, HB.out⟩
  · have hz0n : (z == 0) = false := beq_eq_false_iff_ne.2 (by omega)
    have hz1n : (z == 1) = false := beq_eq_false_iff_ne.2 (by omega)
    by_cases h2 : z = 2
    · subst h2
      go_wp2_with fail
      refine (byte_any w.heap.size ao n cap a4 sd4 _ hn (by omega) (by omega) hd4 hd4' HS4.out HC4.out).mono ?_
      rintro e w5 ⟨y0, a5, sd5, rfl, hp0, hq0, ha5, ha5', hd5, hd5', hs5, hg5⟩
      have HS5 := hidd hs5
      have HG5 := hidd (grown_trans HG4.out hg5)
      have HC5 := hidd (HC4.out.kept hg5)
      clear hs5 hg5 HS4 HC4 HG4
      go_wp2_with fail
      refine (next_any w.heap.size ao n cap a5 sd5 64 _ hn (by omega) (by omega) (by omega) (by omega) hd5 hd5' HS5.out HC5.out).mono ?_
      rintro e w6 ⟨y1, a6, sd6, rfl, hp1, hq1, ha6, ha6', hd6, hd6', hs6, hg6⟩
      have HS6 := hidd hs6
      have HG6 := hidd (grown_trans HG5.out hg6)
      have HC6 := hidd (HC5.out.kept hg6)
      clear hs6 hg6 HS5 HC5 HG5
      go_wp2_with fail
      refine (next_any w.heap.size ao n cap a6 sd6 64 _ hn (by omega) (by omega) (by omega) (by omega) hd6 hd6' HS6.out HC6.out).mono ?_
      rintro e w7 ⟨y2, a7, sd7, rfl, hp2, hq2, ha7, ha7', hd7, hd7', hs7, hg7⟩
      have HS7 := hidd hs7
      have HG7 := hidd (grown_trans HG6.out hg7)
      have HC7 := hidd (HC6.out.kept hg7)
      clear hs7 hg7 HS6 HC6 HG6
      go_wp2_with fail
      refine (next_any w.heap.size ao n cap a7 sd7 64 _ hn (by omega) (by omega) (by omega) (by omega) hd7 hd7' HS7.out HC7.out).mono ?_
      rintro e w8 ⟨y3, a8, sd8, rfl, hp3, hq3, ha8, ha8', hd8, hd8', hs8, hg8⟩
      have HB := hidd ((below_src HG1.out (grown_trans HG7.out hg8)))
      clear hs8 hg8 HS7 HC7 HG7
      obtain ⟨u0, hu0⟩ := u8_of y0 hp0 hq0
      obtain ⟨u1, hu1⟩ := u8_of (128 + y1) (by omega) (by omega)
      obtain ⟨u2, hu2⟩ := u8_of (128 + y2) (by omega) (by omega)
      obtain ⟨u3, hu3⟩ := u8_of (128 + y3) (by omega) (by omega)
      have hbs : BytesAt (w8.alloc (.cells #[.int .u8 y0, .int .u8 (128 + y1), .int .u8 (128 + y2), .int .u8 (128 + y3)] 5)) w8.heap.size [u0, u1, u2, u3] := fun j hj => by
        rw [World.cell?_alloc_at (hn := rfl)]
        match j, hj with
        | 0, _ => simp [hu0]
        | 1, _ => simp [hu1]
        | 2, _ => simp [hu2]
        | 3, _ => simp [hu3]
      have hcv := hbs.text 4 4 rfl
      have hz4 : (⟨[u0, u1, u2, u3].toArray⟩ : ByteArray).size = 4 := size_mk _
      have hzw := HB.out.size
      clear hbs hu0 hu1 hu2 hu3
      generalize (⟨[u0, u1, u2, u3].toArray⟩ : ByteArray) = q at *
      go_wp2
      go_ret
      exact ⟨q ++ t, rfl, by rw [ByteArray.size_append]; omega, HB.out.alloc hzw _⟩
    · have hz2n : (z == 2) = false := beq_eq_false_iff_ne.2 h2
      by_cases h3 : z = 3
      · subst h3
        have hbz : w.heap.size < w4.heap.size := HS4.out.lt
        go_wp2_with fail
        refine (next_any w.heap.size ao n cap a4 sd4 9 _ hn (by omega) (by omega) (by omega) (by omega) hd4 hd4' (by exact HS4.out.alloc _) (by exact HC4.out.alloc _)).mono ?_
        rintro e w5 ⟨y, a5, sd5, rfl, hp0, hq0, ha5, ha5', hd5, hd5', hs5, hg5⟩
        obtain ⟨Y', rfl⟩ := Int.eq_ofNat_of_zero_le hp0
        obtain ⟨c, hcc, hch⟩ := table_int hg5 hbz (by decide +kernel) Y' (by show Y' < 9; omega)
        have HB := hidd (below_src HG1.out (grown_trans HG4.out (grown_trans (World.grownBy_alloc w4 _ (some w.heap.size)) hg5)))
        clear hs5 hg5 HS4 HC4 HG4
        have hyz : (Y' : Int) < 9 := by omega
        have hzw := HB.out.size
        have Hch := hidd hch
        clear hch
        go_wp2_with fail
        refine (encode_some w5.heap.size 0 1 1 [c] _ (by omega) rfl (by simp) (fun t' ht' => ?_) (fun t' ht' => ?_)).mono ?_
        · obtain rfl : t' = 0 := by omega
          simp
        · obtain rfl : t' = 0 := by omega
          exact Hch.out
        rintro e w6 ⟨rfl, hb6⟩
        have hel := encs_le [c]
        have HB6 := hidd ((HB.out.alloc hzw (.cells #[.int .i64 c] 3)).trans (hb6.mono (by simp; omega)))
        clear hb6
        have hq : (⟨(encs [c]).toArray⟩ : ByteArray).size ≤ 4 := by rw [size_mk]; simpa using hel
        generalize (⟨(encs [c]).toArray⟩ : ByteArray) = q at *
        go_wp2
        go_ret
        exact ⟨q ++ t, rfl, by rw [ByteArray.size_append]; omega, HB6.out⟩
      · have hz3n : (z == 3) = false := beq_eq_false_iff_ne.2 h3
        have HB := hidd (below_src HG1.out HG4.out)
        go_wp2
        go_ret
        exact ⟨t, rfl, by omega, HB.out⟩

set_option maxHeartbeats 2000000 in
set_option maxRecDepth 100000 in
theorem drawBreak_any (ao : Option Addr) (n cap : Nat) (w : World) (hn : n ≤ 1048576) (hc : CodeIn w ao n) :
    Calls Tryd.prog 4 #[.slice ao n cap] w fun e w' => ∃ r : ByteArray, e = .returned (.string r) ∧ r.size ≤ 140000 ∧ Below w.heap.size w w' := by
  have HC := hidd hc
  clear hc
  go_enter Tryd.func4, Tryd.ntmps4
  go_wp2_with fail
  refine (source_any ao n cap _ hn).mono ?_
  rintro e w1 ⟨rfl, hs1, hg1⟩
  have HG1 := hidd hg1
  have HC1 := hidd (HC.out.code hg1)
  have HS1 := hidd hs1
  have hm0 : 0 ≤ (n : Int) % 1000 := Int.emod_nonneg _ (by omega)
  have hm1 : (n : Int) % 1000 < 2147483648 := by have := Int.emod_lt_of_pos (n : Int) (by omega : (0 : Int) < 1000); omega
  generalize (n : Int) % 1000 = sd0 at *
  clear hs1 hg1
  go_wp2_with fail
  refine (chance_any w.heap.size ao n cap 0 sd0 60 _ hn (by omega) (by omega) (by omega) (by omega) hm0 hm1 HS1.out HC1.out).mono ?_
  rintro e w2 ⟨x, a2, sd2, rfl, ha2, ha2', hd2, hd2', hs2, hg2⟩
  have HS2 := hidd hs2
  have HG2 := hidd hg2
  have HC2 := hidd (HC1.out.kept hg2)
  clear hs2 hg2 HS1 HC1
  cases x
  · have HB := hidd (below_src HG1.out HG2.out)
    go_wp2_with fail
    refine (draw_any ao n cap _ hn (HC.out.below HB.out)).mono ?_
    rintro e w3 ⟨r, rfl, hrm, hb3⟩
    have HB3 := hidd (HB.out.trans (hb3.mono HB.out.size))
    clear hb3
    go_wp2
    go_ret
    exact ⟨r, rfl, by omega, HB3.out⟩
  · go_wp2_with fail
    refine (next_any w.heap.size ao n cap a2 sd2 2 _ hn (by omega) (by omega) (by omega) (by omega) hd2 hd2' HS2.out HC2.out).mono ?_
    rintro e w3 ⟨y, a3, sd3, rfl, hp0, hq0, ha3, ha3', hd3, hd3', hs3, hg3⟩
    have HB := hidd (below_src HG1.out (grown_trans HG2.out hg3))
    obtain ⟨Y, hY⟩ := Int.eq_ofNat_of_zero_le (by omega : 0 ≤ 8192 + y)
    clear hs3 hg3
    go_wp2_with fail
    refine (repeat_any ⟨#[97, 32]⟩ Y _ (by decide) (by omega)).mono ?_
    rintro e w4 ⟨r, rfl, hrm, hb4⟩
    have HB4 := hidd (HB.out.trans (hb4.mono HB.out.size))
    clear hb4
    have hr2 : r.size ≤ 140000 := by omega
    clear hY
    go_wp2
    go_ret
    exact ⟨r, rfl, hr2, HB4.out⟩
end Go.Proofs.YtecbjhakkebdmadDoor
