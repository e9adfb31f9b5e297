import Derived.Test.YtboocdiilbcdcaaDoorSrcB
import Derived.Test.YtboocdiilbcdcaaDoorDec3
import Derived.Test.YtboocdiilbcdcaaDoorTxW
import Derived.Maps.AppendAt
import Derived.Laws.OwnMore
namespace Go.Proofs.YtboocdiilbcdcaaDoor
open Go Go.RowKit
set_option linter.unusedVariables false

/-! What spec.DrawSketchOf draws. -/
/-- Texts as values. -/
def mkT (l : List Tx) : List Value := l.map fun t => .string ⟨t.toArray⟩
theorem tx_of (t : ByteArray) : (⟨t.data.toList.toArray⟩ : ByteArray) = t := by cases t; simp
theorem SrcAt.kept {w w' : World} {b : Nat} {cv : Value} {a sd : Int} (h : SrcAt w b cv a sd) {row : Option Nat} (hg : w.grownBy w' row) (hne : row ≠ some b) : SrcAt w' b cv a sd := by
  unfold SrcAt at *
  rw [hg.block b (Array.getElem?_eq_some_iff.1 h).1 (fun e => hne e.symm)]
  exact h
theorem grown_new {w w1 w2 : World} {b : Nat} {row : Option Nat} (h : w.grownBy w1 (some b)) (k : w1.grownBy w2 row) (hr : ∀ g, row = some g → w.heap.size ≤ g) : w.grownBy w2 (some b) :=
  ⟨k.os.trans h.os, k.tape.trans h.tape, k.output.trans h.output, Nat.le_trans h.size k.size, fun i hi hb => by
    rw [k.block i (Nat.lt_of_lt_of_le hi h.size) (fun e => by have := hr i e.symm; omega), h.block i hi hb]⟩
theorem own_not {w : World} {base e n b : Nat} {v : Value} {xs : List Value} (h : w.ownsRow base e 1 v n xs) (hb : b < base) : v.ownBlock ≠ some b := fun e => by have := own_block h b e; omega
theorem below_grown {w w' : World} (h : Below w.heap.size w w') (row : Option Nat) : w.grownBy w' row := ⟨h.os, h.tape, h.output, h.size, fun i hi _ => h.block i hi⟩
set_option maxHeartbeats 1000000 in
theorem source_any (ao : Option Addr) (n cap : Nat) (w : World) (hn : n ≤ 1048576) :
    Calls Tryd.prog 19 #[.slice ao n cap] w fun e w' => e = .returned (.pointer (some ⟨w.heap.size, 0, none⟩)) ∧ SrcAt w' w.heap.size (.slice ao n cap) 0 ((n : Int) % 1000) ∧ w.grownBy w' none := by
  go_enter Tryd.func19, Tryd.ntmps19
  go_wp2
  go_ret
  exact ⟨rfl, heap_alloc_new w _, World.grownBy_alloc w _ none⟩
def CodeIn (w : World) (ao : Option Addr) (n : Nat) : Prop := ∀ j, j < n → ∃ blk off z, ao = some ⟨blk, off, none⟩ ∧ blk < w.heap.size ∧ 0 ≤ z ∧ z ≤ 255 ∧ w.cell? ⟨blk, off + j, none⟩ = some (.int .u8 z)
theorem CodeIn.code {w w' : World} {ao : Option Addr} {n : Nat} (h : CodeIn w ao n) (hg : w.grownBy w' none) : Code w' w.heap.size ao n := fun j hj => by
  obtain ⟨blk, off, z, h1, h2, h3, h4, h5⟩ := h j hj
  exact ⟨blk, off, z, h1, by omega, h3, h4, hg.cell h5 (by simp)⟩
theorem below_src {w w1 w2 : World} (h : w.grownBy w1 none) (k : w1.grownBy w2 (some w.heap.size)) : Below w.heap.size w w2 :=
  ⟨k.os.trans h.os, k.tape.trans h.tape, k.output.trans h.output, Nat.le_trans h.size k.size, fun i hi => by rw [k.block i (Nat.lt_of_lt_of_le hi h.size) (by simp; omega), h.block i hi (by simp)]⟩
set_option maxHeartbeats 1000000 in
theorem size_any (b : Nat) (ao : Option Addr) (n cap : Nat) (a sd m : Int) (w : World) (hn : n ≤ 1048576) (hm : 1 ≤ m) (hm2 : m ≤ 16777216) (hs : SrcAt w b (.slice ao n cap) a sd) :
    Calls Tryd.prog 38 #[.pointer (some ⟨b, 0, none⟩), .int .i64 m] w fun e w' => ∃ x : Int, e = .returned (.int .i64 x) ∧ 1 ≤ x ∧ x ≤ m ∧ w' = w := by
  obtain ⟨c0, c1, c2⟩ := hs.cell
  clear hs
  go_enter Tryd.func38, Tryd.ntmps38
  go_wp2
  all_goals go_ret
  all_goals exact ⟨_, rfl, by omega, by omega, rfl⟩
set_option maxHeartbeats 1000000 in
set_option maxRecDepth 100000 in
theorem wordS_any (b : Nat) (ao : Option Addr) (n cap : Nat) (a sd : Int) (w : World) (hn : n ≤ 1048576) (ha0 : 0 ≤ a) (ha2 : a ≤ 549755813888) (hs0 : 0 ≤ sd) (hs1 : sd < 2147483648)
    (hs : SrcAt w b (.slice ao n cap) a sd) (hc : Code w b ao n) :
    Calls Tryd.prog 39 #[.pointer (some ⟨b, 0, none⟩)] w fun e w' => DrawnT w b (.slice ao n cap) a 3 16 e w' := by
  have HS := hidd hs
  have HC := hidd hc
  have hb := hs.lt
  clear hs hc
  go_enter Tryd.func39, Tryd.ntmps39
  go_wp2_with fail
  refine (next_any b ao n cap a sd 25 _ hn (by omega) (by omega) ha0 ha2 hs0 hs1 (by exact HS.out.alloc _) (by exact HC.out.alloc _)).mono ?_
  rintro e w1 ⟨x, a1, sd1, rfl, hx0, hx1, ha3, ha4, hsd0, hsd1, hs1', hg1⟩
  obtain ⟨X, rfl⟩ := Int.eq_ofNat_of_zero_le hx0
  obtain ⟨t, ht, htm⟩ := table_str hg1 hb 16 (by decide +kernel) X (by show X < 25; omega)
  have HR := hidd (And.intro hs1' (grown_trans (World.grownBy_alloc w _ (some b)) hg1))
  clear hs1' hg1
  have hxz : (X : Int) < 25 := by omega
  go_wp2
  go_ret
  unfold DrawnT
  exact ⟨t, a1, sd1, rfl, htm, by omega, by omega, hsd0, hsd1, HR.out.1, HR.out.2⟩

/-- Some texts were drawn. -/
def DrawnX (w : World) (b : Nat) (cv : Value) (a k : Int) (e : Ending) (w' : World) : Prop :=
  ∃ (ts : List Tx) (g cp : Nat) (a' sd' : Int), e = .returned (.slice (some ⟨g, 0, none⟩) ts.length cp) ∧ ts.length ≤ 4096 ∧ (∀ t ∈ ts, t.length ≤ 65536) ∧ w'.ownsRow w.heap.size 9 1 (.slice (some ⟨g, 0, none⟩) ts.length cp) ts.length (mkT ts) ∧ a ≤ a' ∧ a' ≤ a + k ∧ 0 ≤ sd' ∧ sd' < 2147483648 ∧ SrcAt w' b cv a' sd' ∧ w.grownBy w' (some b)
set_option maxHeartbeats 4000000 in
set_option maxRecDepth 100000 in
theorem texts_any (b : Nat) (ao : Option Addr) (n cap : Nat) (a sd : Int) (w : World) (hn : n ≤ 1048576) (ha0 : 0 ≤ a) (ha2 : a ≤ 68719476736) (hs0 : 0 ≤ sd) (hs1 : sd < 2147483648)
    (hs : SrcAt w b (.slice ao n cap) a sd) (hc : Code w b ao n) :
    Calls Tryd.prog 22 #[.pointer (some ⟨b, 0, none⟩)] w fun e w' => DrawnX w b (.slice ao n cap) a 100000 e w' := by
  obtain ⟨i0, hi, hz0, hz1, hz2⟩ := info_parts Tryd.infoStrD
  have hb := hs.lt
  have HS := hidd (hs.alloc (.cells #[] 9))
  have HC := hidd (hc.alloc (.cells #[] 9))
  have HO0 := hidd (own_empty w 9)
  have HG0 := hidd (World.grownBy_alloc w (.cells #[] 9) (some b))
  have hc0 := hc
  clear hs hc
  go_enter Tryd.func22, Tryd.ntmps22
  go_wp2_with fail
  refine (size_any b ao n cap a sd 60 _ hn (by omega) (by omega) HS.out).mono ?_
  rintro e w' ⟨x, rfl, hx0, hx1, hw'⟩
  obtain rfl := hw'.symm
  clear hw'
  generalize w.alloc (.cells #[] 9) = w0 at *
  go_wp2_with fail
  refine (next_any b ao n cap a sd (x + 1) _ hn (by omega) (by omega) (by omega) (by omega) hs0 hs1 HS.out HC.out).mono ?_
  rintro e w2 ⟨y, a2, sd2, rfl, hy0, hy1, ha3, ha4, hd0, hd1, hs2, hg2⟩
  have HS2 := hidd hs2
  have HC2 := hidd (HC.out.kept hg2)
  have HO2 := hidd (HO0.out.kept hg2 (Or.inr (own_not HO0.out hb)))
  have HG2 := hidd (grown_trans HG0.out hg2)
  clear hs2 hg2 HS HC HO0 HG0
  go_wp2_with fail
  refine (chance_any b ao n cap a2 sd2 10 _ hn (by omega) (by omega) (by omega) (by omega) hd0 hd1 HS2.out HC2.out).mono ?_
  rintro e w3 ⟨q, a3, sd3, rfl, ha5, ha6, hd2, hd3, hs3, hg3⟩
  have HS3 := hidd hs3
  have HC3 := hidd (HC2.out.kept hg3)
  have HO3 := hidd (HO2.out.kept hg3 (Or.inr (own_not HO2.out hb)))
  have HG3 := hidd (grown_trans HG2.out hg3)
  clear hs3 hg3 HS2 HC2 HO2 HG2
  obtain ⟨Y, rfl⟩ := Int.eq_ofNat_of_zero_le hy0
  cases q
  all_goals
    first
    | (go_wp2_with fail
       refine (next_any b ao n cap a3 sd3 1500 _ hn (by omega) (by omega) (by omega) (by omega) hd2 hd3 HS3.out HC3.out).mono ?_
       rintro e w4 ⟨u, a4, sd4, rfl, hu0, hu1, ha7, ha8, hd4, hd5, hs4, hg4⟩
       have HS4 := hidd hs4
       have HC4 := hidd (HC3.out.kept hg4)
       have HO4 := hidd (HO3.out.kept hg4 (Or.inr (own_not HO3.out hb)))
       have HG4 := hidd (grown_trans HG3.out hg4)
       clear hs4 hg4 HS3 HC3 HO3 HG3
       obtain ⟨N, hNe, hN⟩ : ∃ N : Nat, 200 + u = (N : Int) ∧ N ≤ 1700 := ⟨(200 + u).toNat, by omega, by omega⟩
       have ha9 : a4 ≤ a + 30 := by omega
       have ha10 : a ≤ a4 := by omega
       go_wp2)
    | (obtain ⟨w4, hw4⟩ : ∃ V, w3 = V := ⟨_, rfl⟩
       obtain ⟨a4, ha40⟩ : ∃ x, a3 = x := ⟨_, rfl⟩
       obtain ⟨sd4, hd40⟩ : ∃ x, sd3 = x := ⟨_, rfl⟩
       subst hw4 ha40 hd40
       have HS4 := HS3
       have HC4 := HC3
       have HO4 := HO3
       have HG4 := HG3
       have hd4 := hd2
       have hd5 := hd3
       clear HS3 HC3 HO3 HG3
       obtain ⟨N, hNe, hN⟩ : ∃ N : Nat, (Y : Int) = (N : Int) ∧ N ≤ 1700 := ⟨Y, rfl, by omega⟩
       have ha9 : a3 ≤ a + 30 := by omega
       have ha10 : a ≤ a3 := by omega
       go_wp2)
  all_goals
    go_loopw [3, 4] (fun ov kv wr => ∃ (k : Nat) (ts : List Tx) (g cp : Nat) (a1 sd1 : Int), kv = .int .i64 (k : Int) ∧ ts.length + k = N ∧ (∀ t ∈ ts, t.length ≤ 65536) ∧ ov = .slice (some ⟨g, 0, none⟩) ts.length cp ∧ wr.ownsRow w.heap.size 9 1 (.slice (some ⟨g, 0, none⟩) ts.length cp) ts.length (mkT ts) ∧ a ≤ a1 ∧ a1 + 9 * (k : Int) ≤ a + 30 + 9 * (N : Int) ∧ 0 ≤ sd1 ∧ sd1 < 2147483648 ∧ SrcAt wr b (.slice ao n cap) a1 sd1 ∧ w.grownBy wr (some b)) (fun _ kv _ => (intOf kv).toNat)
    case atStart => exact ⟨N, [], w.heap.size, 0, _, _, by first | rfl | rw [hNe] | (congr 1; omega), by simp, by simp, rfl, HO4.out, by omega, by omega, hd4, hd5, HS4.out, HG4.out⟩
    case round =>
      obtain ⟨k, ts, g, cp, a1, sd1, rfl, hzk, hts, rfl, hown, hb0, hb1, hb2, hb3, hsr, hgr⟩ := hrel
      have HTs := hidd hts
      have HOr := hidd hown
      have HSr := hidd hsr
      have HGr := hidd hgr
      have HCr := hidd (hc0.kept hgr)
      have hgz := hgr.size
      clear hown hsr hgr HS4 HO4 HG4 HC4 hts
      by_cases hk : 0 < k
      · have hkz : (0 : Int) < (k : Int) := by omega
        go_wp2_with fail
        refine (wordS_any b ao n cap a1 sd1 _ hn (by omega) (by omega) hb2 hb3 HSr.out HCr.out).mono ?_
        rintro e w5 ⟨t, a5, sd5, rfl, ht, hc1, hc2, hc3, hc4, hs5, hg5⟩
        have HS5 := hidd hs5
        have HC5 := hidd (HCr.out.kept hg5)
        have HO5 := hidd (HOr.out.kept hg5 (Or.inr (own_not HOr.out hb)))
        have HG5 := hidd (grown_trans HGr.out hg5)
        clear hs5 hg5 HSr HGr HOr HCr
        go_wp2_with fail
        refine (next_any b ao n cap a5 sd5 500 _ hn (by omega) (by omega) (by omega) (by omega) hc3 hc4 HS5.out HC5.out).mono ?_
        rintro e w6 ⟨y6, a6, sd6, rfl, hy60, hy61, hc5, hc6, hc7, hc8, hs6, hg6⟩
        obtain ⟨Y6, rfl⟩ := Int.eq_ofNat_of_zero_le hy60
        have HS6 := hidd hs6
        have HO6 := hidd (HO5.out.kept hg6 (Or.inr (own_not HO5.out hb)))
        have HG6 := hidd (grown_trans HG5.out hg6)
        clear hs6 hg6 HS5 HG5 HO5 HC5
        go_wp2_with fail
        refine (dec_any Y6 _ (by omega)).mono ?_
        rintro e w7 ⟨d, rfl, hd, hb7⟩
        have hg7 := below_grown hb7 none
        have HS7 := hidd (HS6.out.kept hg7 (by simp))
        have HO7 := hidd (own_below HO6.out hb7)
        have HG7 := hidd (grown_trans HG6.out (below_grown hb7 (some b)))
        have hgz7 := HG7.out.size
        clear hb7 hg7 HS6 HG6 HO6
        have htd : t.size + d.size ≤ 9223372036854775806 := by omega
        have Htd : Hid ((t ++ d).data.toList.length ≤ 65536) := by show _ ≤ _; rw [← Lib.size_eq, ByteArray.size_append]; omega
        go_wp2_with (at_builtin; refine wpList_append_own_at _ rfl _ _ 23 rfl w.heap.size 9 i0 (.string ⟨#[]⟩) 1 16 Tryd.underlying23 hi hz0 hz1 hz2 rfl (by decide) _ _ _ rfl (HO7.out.alloc _) ⟨w7.heap.size, 0, none⟩ 1 1 [.string (t ++ d)] rfl rfl ?c1 ?c2 ?c3 ?c4 ?c5 ?_)
        try case c1 =>
          intro j u hj
          match j, hj with
          | 0, hj => simp at hj; subst hj; simp [Addr.add]
        case c2 => first | rfl | (intro u hu; simp at hu; subst hu; rfl)
        case c3 => unfold maxLen; omega
        case c4 => omega
        case c5 => simp; omega
        intro v8 w8 hown8 hgrow8 hne8 hat8
        have R8 : Hid (∃ g8 cp8, v8 = .slice (some ⟨g8, 0, none⟩) (ts.length + 1) cp8 ∧ w8.ownsRow w.heap.size 9 1 (.slice (some ⟨g8, 0, none⟩) (ts.length + 1) cp8) (ts.length + 1) (mkT (ts ++ [(t ++ d).data.toList])) ∧ SrcAt w8 b (.slice ao n cap) a6 sd6 ∧ w.grownBy w8 (some b)) := by
          rcases own_cases hown8 with ⟨h, h'⟩ | ⟨g8, cp8, rfl, _, _⟩
          · exfalso; omega
          refine ⟨g8, cp8, rfl, ?_, (HS7.out.alloc _).kept hgrow8 (own_not HO7.out hb), grown_new (grown_trans HG7.out (World.grownBy_alloc w7 _ _)) hgrow8 (own_block HO7.out)⟩
          have e0 : mkT (ts ++ [(t ++ d).data.toList]) = mkT ts ++ [.string (t ++ d)] := by unfold mkT; rw [List.map_append, List.map_singleton, tx_of]
          rw [e0]; exact hown8
        clear hown8 hgrow8 hat8 hne8 HO7 HS7 HG7
        obtain ⟨g8, cp8, rfl, ho8, hs8, hgg8⟩ := R8.out
        have R9 := hidd (And.intro ho8 (And.intro hs8 hgg8))
        clear ho8 hs8 hgg8 R8
        go_wp2
        go_roundw
        · refine ⟨k - 1, ts ++ [(t ++ d).data.toList], g8, cp8, a6, sd6, by go_num, by simp; omega, ?_, by simp, by simpa using R9.out.1, by omega, by omega, hc7, hc8, R9.out.2.1, R9.out.2.2⟩
          intro u hu
          rcases List.mem_append.1 hu with hu | hu
          · exact HTs.out u hu
          · rw [List.mem_singleton.1 hu]; exact Htd.out
        · simp [intOf]; omega
      · have hk0 : k = 0 := by omega
        subst hk0
        go_wp2
        go_ret
        unfold DrawnX
        exact ⟨ts, g, cp, a1, sd1, rfl, by omega, HTs.out, HOr.out, by omega, by omega, hb2, hb3, HSr.out, HGr.out⟩

/-- Texts were drawn from a code. -/
def DrawnTs (w : World) (e : Ending) (w' : World) : Prop :=
  ∃ (ts : List Tx) (g cp : Nat), e = .returned (.slice (some ⟨g, 0, none⟩) ts.length cp) ∧ ts.length ≤ 4097 ∧ (∀ t ∈ ts, t.length ≤ 65536) ∧ w'.ownsRow w.heap.size 9 1 (.slice (some ⟨g, 0, none⟩) ts.length cp) ts.length (mkT ts) ∧ Below w.heap.size w w'
set_option maxHeartbeats 4000000 in
set_option maxRecDepth 100000 in
theorem drawSketch_any (ao : Option Addr) (n cap : Nat) (w : World) (hn : n ≤ 1048576) (hc : CodeIn w ao n) :
    Calls Tryd.prog 5 #[.slice ao n cap] w (DrawnTs w) := by
  obtain ⟨i0, hi, hz0, hz1, hz2⟩ := info_parts Tryd.infoStrD
  have HC := hidd hc
  clear hc
  go_enter Tryd.func5, Tryd.ntmps5
  go_wp2_with fail
  refine (source_any ao n cap _ hn).mono ?_
  rintro e w1 ⟨rfl, hs1, hg1⟩
  have HG1 := hidd hg1
  have HC1 := hidd (HC.out.code hg1)
  have HS1 := hidd hs1
  have hbw : w.heap.size < w1.heap.size := hs1.lt
  have hm0 : 0 ≤ (n : Int) % 1000 := Int.emod_nonneg _ (by omega)
  have hm1 : (n : Int) % 1000 < 2147483648 := by have := Int.emod_lt_of_pos (n : Int) (by omega : (0 : Int) < 1000); omega
  generalize (n : Int) % 1000 = sd0 at *
  clear hs1 hg1
  go_wp2_with fail
  refine (chance_any w.heap.size ao n cap 0 sd0 60 _ hn (by omega) (by omega) (by omega) (by omega) hm0 hm1 HS1.out HC1.out).mono ?_
  rintro e w3 ⟨q3, a3, sd3, rfl, ha2, ha3, hd2, hd3, hs3, hg3⟩
  have HS3 := hidd hs3
  have HC3 := hidd (HC1.out.kept hg3)
  have HG3 := hidd hg3
  clear hs3 hg3 HS1 HC1
  cases q3 with
  | false =>
    go_wp2_with fail
    refine (texts_any w.heap.size ao n cap a3 sd3 _ hn (by omega) (by omega) hd2 hd3 HS3.out HC3.out).mono ?_
    rintro e w4 ⟨ts, g, cp, a4, sd4, rfl, htl, hts, ho4, -, -, -, -, hs4, hg4⟩
    have HO4 := hidd ho4
    have HG4 := hidd (grown_trans HG3.out hg4)
    have HTs := hidd hts
    have hz3 := HG3.out.size
    clear ho4 hg4 hs4 hts
    go_wp2
    go_ret
    unfold DrawnTs
    exact ⟨ts, g, cp, rfl, by omega, HTs.out, own_mono HO4.out (by omega), below_src HG1.out HG4.out⟩
  | true =>
    go_wp2_with fail
    refine (next_any w.heap.size ao n cap a3 sd3 2 _ hn (by omega) (by omega) (by omega) (by omega) hd2 hd3 HS3.out HC3.out).mono ?_
    rintro e w5 ⟨y, a5, sd5, rfl, hy0, hy1, ha6, ha7, hd6, hd7, hs5, hg5⟩
    obtain ⟨L, hLe, hL⟩ : ∃ L : Nat, 4096 + y = (L : Int) ∧ L ≤ 4097 := ⟨(4096 + y).toNat, by omega, by omega⟩
    have HG5 := hidd (grown_trans HG3.out hg5)
    have hz5 := HG5.out.size
    clear hs5 hg5 HS3 HC3 HG3
    go_wp2_with (at_make; refine wpList_make_full _ rfl _ _ 23 rfl w.heap.size 9 i0 (.string ⟨#[]⟩) 1 Tryd.underlying23 hi hz0 hz1 _ _ _ _ L rfl rfl (by omega) (by omega) ?b2 ?b3 (by omega) ?_)
    case b2 => rw [hz2]; omega
    case b3 => unfold maxLen; omega
    intro w6 hown6 hgrow6
    have R6 : Hid (w6.ownsRow w.heap.size 9 1 (.slice (some ⟨w5.heap.size, 0, none⟩) L L) L (mkT (List.replicate L [])) ∧ Below w.heap.size w w6) := by
      refine ⟨?_, (below_src HG1.out HG5.out).grown hgrow6 (by omega) (fun k h => by cases h)⟩
      have e0 : (madeCells #[Value.string ⟨#[]⟩] L).toList = List.replicate L (Value.string ⟨#[]⟩) := toList_madeCells_one _ _
      rw [e0] at hown6
      unfold mkT
      rw [List.map_replicate]
      exact hown6
    clear hown6 hgrow6
    go_wp2
    go_ret
    unfold DrawnTs
    refine ⟨List.replicate L [], w5.heap.size, L, by simp, by simp; omega, ?_, by simpa using R6.out.1, R6.out.2⟩
    intro t ht
    rw [List.eq_of_mem_replicate ht]; simp
end Go.Proofs.YtboocdiilbcdcaaDoor
