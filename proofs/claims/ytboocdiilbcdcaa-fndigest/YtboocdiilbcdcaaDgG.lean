import Derived.Test.YtboocdiilbcdcaaSrcG
import Derived.Test.YtboocdiilbcdcaaDgM
import Derived.Maps.AppendAt
import Derived.Laws.OwnMore
namespace Go.Proofs.Ytboocdiilbcdcaa
open Go Go.RowKit
set_option linter.unusedVariables false

/-! What spec.DrawDigestOf draws. -/
theorem Try.infoIntD : (Try.prog.info? 3).map (fun i => (i.zero, i.size, i.bytes)) = some (some (.int .i64 0), 1, 8) := by kernel_rfl
/-- A list of at most m numbers was drawn, by at most k bytes. -/
def DrawnL (w : World) (b : Nat) (cv : Value) (a k : Int) (m : Nat) (e : Ending) (w' : World) : Prop :=
  ∃ (zs : List Int) (g cp : Nat) (a' sd' : Int), e = .returned (.slice (some ⟨g, 0, none⟩) zs.length cp) ∧ zs.length ≤ m ∧ w'.ownsRow w.heap.size 3 1 (.slice (some ⟨g, 0, none⟩) zs.length cp) zs.length (zs.map (Value.int .i64)) ∧ a ≤ a' ∧ a' ≤ a + k ∧ 0 ≤ sd' ∧ sd' < 2147483648 ∧ SrcAt w' b cv a' sd' ∧ w.grownBy w' (some b)

set_option maxHeartbeats 2000000 in
set_option maxRecDepth 100000 in
theorem numbers_any (b : Nat) (ao : Option Addr) (n cap : Nat) (a sd : Int) (w : World) (hn : n ≤ 1048576) (ha0 : 0 ≤ a) (ha2 : a ≤ 68719476736) (hs0 : 0 ≤ sd) (hs1 : sd < 2147483648)
    (hs : SrcAt w b (.slice ao n cap) a sd) (hc : Code w b ao n) :
    Calls Try.prog 27 #[.pointer (some ⟨b, 0, none⟩)] w fun e w' => DrawnL w b (.slice ao n cap) a 10000 300 e w' := by
  obtain ⟨i0, hi, hz0, hz1, hz2⟩ := info_parts Try.infoIntD
  have hb := hs.lt
  have HS := hidd (hs.alloc (.cells #[] 3))
  have HC := hidd (hc.alloc (.cells #[] 3))
  have HO0 := hidd (own_empty w 3)
  have HG0 := hidd (World.grownBy_alloc w (.cells #[] 3) (some b))
  have hc0 := hc
  clear hs hc
  go_enter Try.func27, Try.ntmps27
  go_wp2_with fail
  refine (size_any b ao n cap a sd 80 _ hn (by omega) (by omega) HS.out).mono ?_
  rintro e w' ⟨x, rfl, hx0, hx1, hw'⟩
  obtain rfl := hw'.symm
  clear hw'
  generalize w.alloc (.cells #[] 3) = w0 at *
  go_wp2_with fail
  refine (next_any b ao n cap a sd (x + 1) _ hn (by omega) (by omega) (by omega) (by omega) hs0 hs1 HS.out HC.out).mono ?_
  rintro e w4 ⟨y, a4, sd4, rfl, hy0, hy1, ha3, ha4, hd4, hd5, hs2, hg2⟩
  have HS4 := hidd hs2
  have HC4 := hidd (HC.out.kept hg2)
  have HO4 := hidd (HO0.out.kept hg2 (Or.inr (own_not HO0.out hb)))
  have HG4 := hidd (grown_trans HG0.out hg2)
  clear hs2 hg2 HS HC HO0 HG0
  obtain ⟨N, rfl⟩ := Int.eq_ofNat_of_zero_le hy0
  have hN : N ≤ 300 := by omega
  have ha9 : a4 ≤ a + 30 := by omega
  go_wp2
  go_loopw [3, 4] (fun ov kv wr => ∃ (k : Nat) (zs : List Int) (g cp : Nat) (a1 sd1 : Int), kv = .int .i64 (k : Int) ∧ zs.length + k = N ∧ ov = .slice (some ⟨g, 0, none⟩) zs.length cp ∧ wr.ownsRow w.heap.size 3 1 (.slice (some ⟨g, 0, none⟩) zs.length cp) zs.length (zs.map (Value.int .i64)) ∧ a ≤ a1 ∧ a1 + 9 * (k : Int) ≤ a + 30 + 9 * (N : Int) ∧ 0 ≤ sd1 ∧ sd1 < 2147483648 ∧ SrcAt wr b (.slice ao n cap) a1 sd1 ∧ w.grownBy wr (some b)) (fun _ kv _ => (intOf kv).toNat)
  case atStart => exact ⟨N, [], w.heap.size, 0, a4, sd4, rfl, by simp, rfl, HO4.out, by omega, by omega, hd4, hd5, HS4.out, HG4.out⟩
  case round =>
    obtain ⟨k, zs, g, cp, a1, sd1, rfl, hzk, rfl, hown, hb0, hb1, hb2, hb3, hsr, hgr⟩ := hrel
    have HOr := hidd hown
    have HSr := hidd hsr
    have HGr := hidd hgr
    have HCr := hidd (hc0.kept hgr)
    have hgz := hgr.size
    clear hown hsr hgr HS4 HO4 HG4
    by_cases hk : 0 < k
    · have hkz : (0 : Int) < (k : Int) := by omega
      go_wp2_with fail
      refine (next_any b ao n cap a1 sd1 60 _ hn (by omega) (by omega) (by omega) (by omega) hb2 hb3 HSr.out HCr.out).mono ?_
      rintro e w1 ⟨x1, a2', sd2', rfl, hx10, hx11, hc1, hc2, hc3, hc4, hs2, hg2⟩
      have HS2 := hidd hs2
      have HO2 := hidd (HOr.out.kept hg2 (Or.inr (own_not HOr.out hb)))
      have HG2 := hidd (grown_trans HGr.out hg2)
      have hgz2 := HG2.out.size
      clear hs2 hg2 HSr HGr HOr HCr
      go_wp2_with (at_builtin; refine wpList_append_own_at _ rfl _ _ 23 rfl w.heap.size 3 i0 (.int .i64 0) 1 8 Try.underlying23 hi hz0 hz1 hz2 rfl (by decide) _ _ _ rfl (HO2.out.alloc _) ⟨w1.heap.size, 0, none⟩ 1 1 [.int .i64 (x1 - 20)] rfl rfl ?c1 ?c2 ?c3 ?c4 ?c5 ?_)
      try case c1 =>
        intro j u hj
        match j, hj with
        | 0, hj => simp at hj; subst hj; simp [Addr.add]
      case c2 => first | rfl | (intro u hu; simp at hu; subst hu; rfl)
      case c3 => unfold maxLen; omega
      case c4 => omega
      case c5 => simp; omega
      intro v6 w6 hown6 hgrow6 hne6 hat6
      have R6 : Hid (∃ g6 cp6, v6 = .slice (some ⟨g6, 0, none⟩) (zs.length + 1) cp6 ∧ w6.ownsRow w.heap.size 3 1 (.slice (some ⟨g6, 0, none⟩) (zs.length + 1) cp6) (zs.length + 1) ((zs ++ [x1 - 20]).map (Value.int .i64)) ∧ SrcAt w6 b (.slice ao n cap) a2' sd2' ∧ w.grownBy w6 (some b)) := by
        rcases own_cases hown6 with ⟨h, h'⟩ | ⟨g6, cp6, rfl, _, _⟩
        · exfalso; omega
        refine ⟨g6, cp6, rfl, ?_, (HS2.out.alloc _).kept hgrow6 (own_not HO2.out hb), grown_new (grown_trans HG2.out (World.grownBy_alloc w1 _ _)) hgrow6 (own_block HO2.out)⟩
        rw [List.map_append]; exact hown6
      clear hown6 hgrow6 hat6 hne6 HO2 HS2 HG2
      obtain ⟨g6, cp6, rfl, ho6, hs6, hgg6⟩ := R6.out
      have R7 := hidd (And.intro ho6 (And.intro hs6 hgg6))
      clear ho6 hs6 hgg6 R6
      go_wp2
      go_roundw
      · exact ⟨k - 1, zs ++ [x1 - 20], g6, cp6, a2', sd2', by go_num, by simp; omega, by simp, by simpa using R7.out.1, by omega, by omega, hc3, hc4, R7.out.2.1, R7.out.2.2⟩
      · simp [intOf]; omega
    · have hk0 : k = 0 := by omega
      subst hk0
      go_wp2
      go_ret
      unfold DrawnL
      exact ⟨zs, g, cp, a1, sd1, rfl, by omega, HOr.out, by omega, by omega, hb2, hb3, HSr.out, HGr.out⟩

/-- A list and a step were drawn. -/
def DrawnD (w : World) (e : Ending) (w' : World) : Prop :=
  ∃ (zs : List Int) (g cp : Nat) (t : Int), e = .returned (.tuple #[.slice (some ⟨g, 0, none⟩) zs.length cp, .int .i64 t]) ∧ zs.length ≤ 4096 ∧ w'.ownsRow w.heap.size 3 1 (.slice (some ⟨g, 0, none⟩) zs.length cp) zs.length (zI zs) ∧ Below w.heap.size w w'
set_option maxHeartbeats 4000000 in
set_option maxRecDepth 100000 in
theorem drawDigest_any (ao : Option Addr) (n cap : Nat) (w : World) (hn : n ≤ 1048576) (hc : CodeIn w ao n) :
    Calls Try.prog 7 #[.slice ao n cap] w (DrawnD w) := by
  obtain ⟨i0, hi, hz0, hz1, hz2⟩ := info_parts Try.infoIntD
  have HC := hidd hc
  clear hc
  go_enter Try.func7, Try.ntmps7
  go_wp2_with fail
  refine (source_any ao n cap _ hn).mono ?_
  rintro e w1 ⟨rfl, hs1, hg1⟩
  have HG1 := hidd hg1
  have HC1 := hidd (HC.out.code hg1)
  have HS1 := hidd hs1
  have hbw : w.heap.size < w1.heap.size := hs1.lt
  have hm0 : 0 ≤ (n : Int) % 1000 := Int.emod_nonneg _ (by omega)
  have hm1 : (n : Int) % 1000 < 2147483648 := by have := Int.emod_lt_of_pos (n : Int) (by omega : (0 : Int) < 1000); omega
  generalize (n : Int) % 1000 = sd0 at *
  clear hs1 hg1
  go_wp2_with fail
  refine (numbers_any w.heap.size ao n cap 0 sd0 _ hn (by omega) (by omega) hm0 hm1 HS1.out HC1.out).mono ?_
  rintro e w2 ⟨zs, g, cp, a2, sd2, rfl, hzl, hown2, ha0, ha1, hd0, hd1, hs2, hg2⟩
  have HO2 := hidd hown2
  have HS2 := hidd hs2
  have HC2 := hidd (HC1.out.kept hg2)
  have HG2 := hidd hg2
  clear hown2 hs2 hg2 HS1
  go_wp2_with fail
  refine (next_any w.heap.size ao n cap a2 sd2 9 _ hn (by omega) (by omega) (by omega) (by omega) hd0 hd1 HS2.out HC2.out).mono ?_
  rintro e w3 ⟨t, a3, sd3, rfl, ht0, ht1, ha2, ha3, hd2, hd3, hs3, hg3⟩
  have HS3 := hidd hs3
  have HC3 := hidd (HC2.out.kept hg3)
  have HO3 := hidd (HO2.out.kept hg3 (Or.inr (own_not HO2.out hbw)))
  have HG3 := hidd (grown_trans HG2.out hg3)
  clear hs3 hg3 HS2 HC2 HO2 HG2
  go_wp2_with fail
  refine (next_any w.heap.size ao n cap a3 sd3 20 _ hn (by omega) (by omega) (by omega) (by omega) hd2 hd3 HS3.out HC3.out).mono ?_
  rintro e w4 ⟨q, a4, sd4, rfl, hq0, hq1, ha4, ha5, hd4, hd5, hs4, hg4⟩
  have HS4 := hidd hs4
  have HC4 := hidd (HC3.out.kept hg4)
  have HO4 := hidd (HO3.out.kept hg4 (Or.inr (own_not HO3.out hbw)))
  have HG4 := hidd (grown_trans HG3.out hg4)
  clear hs4 hg4 HS3 HC3 HO3 HG3
  have hzw := HG4.out.size
  by_cases q0 : q = 0
  · subst q0
    go_wp2_with fail
    refine (next_any w.heap.size ao n cap a4 sd4 3 _ hn (by omega) (by omega) (by omega) (by omega) hd4 hd5 (by exact HS4.out.alloc _) (by exact HC4.out.alloc _)).mono ?_
    rintro e w5 ⟨y, a5, sd5, rfl, hy0, hy1, ha6, ha7, hd6, hd7, hs5, hg5⟩
    obtain ⟨Y, rfl⟩ := Int.eq_ofNat_of_zero_le hy0
    obtain ⟨z, hz⟩ := table_int hg5 (by omega) (by decide +kernel) Y (by show Y < 3; omega)
    have HO5 := hidd ((HO4.out.alloc _).kept hg5 (Or.inr (own_not HO4.out hbw)))
    have HG5 := hidd (grown_trans (grown_trans HG4.out (World.grownBy_alloc w4 _ (some w.heap.size))) hg5)
    have hyz : (Y : Int) < 3 := by omega
    clear hs5 hg5 HO4 HG4 HS4 HC4
    go_wp2
    go_ret2
    unfold DrawnD
    exact ⟨zs, g, cp, z, rfl, by omega, own_mono HO5.out (by omega), below_src HG1.out HG5.out⟩
  by_cases q1 : q = 1
  · subst q1
    go_wp2_with fail
    refine (next_any w.heap.size ao n cap a4 sd4 4 _ hn (by omega) (by omega) (by omega) (by omega) hd4 hd5 (by exact HS4.out.alloc _) (by exact HC4.out.alloc _)).mono ?_
    rintro e w5 ⟨y, a5, sd5, rfl, hy0, hy1, ha6, ha7, hd6, hd7, hs5, hg5⟩
    obtain ⟨Y, rfl⟩ := Int.eq_ofNat_of_zero_le hy0
    obtain ⟨z, hz⟩ := table_int hg5 (by omega) (by decide +kernel) Y (by show Y < 4; omega)
    have HO5 := hidd ((HO4.out.alloc _).kept hg5 (Or.inr (own_not HO4.out hbw)))
    have HG5 := hidd (grown_trans (grown_trans HG4.out (World.grownBy_alloc w4 _ (some w.heap.size))) hg5)
    have hz5 := HG5.out.size
    have hyz : (Y : Int) < 4 := by omega
    clear hs5 hg5 HO4 HG4 HS4 HC4
    go_wp2_with (at_builtin; refine wpList_append_own_at _ rfl _ _ 23 rfl w1.heap.size 3 i0 (.int .i64 0) 1 8 Try.underlying23 hi hz0 hz1 hz2 rfl (by decide) _ _ _ rfl (HO5.out.alloc _) ⟨w5.heap.size, 0, none⟩ 1 1 [.int .i64 z] rfl rfl ?c1 ?c2 ?c3 ?c4 ?c5 ?_)
    try case c1 =>
      intro j u hj
      match j, hj with
      | 0, hj => simp at hj; subst hj; simp [Addr.add]
    case c2 => first | rfl | (intro u hu; simp at hu; subst hu; rfl)
    case c3 => unfold maxLen; omega
    case c4 => omega
    case c5 => simp; omega
    intro v8 w8 hown8 hgrow8 hne8 hat8
    obtain ⟨g8, cp8, rfl, R8⟩ : ∃ g8 cp8, v8 = .slice (some ⟨g8, 0, none⟩) (zs ++ [z]).length cp8 ∧ Hid (w8.ownsRow w1.heap.size 3 1 (.slice (some ⟨g8, 0, none⟩) (zs ++ [z]).length cp8) (zs ++ [z]).length ((zs ++ [z]).map (Value.int .i64)) ∧ w1.grownBy w8 (some w.heap.size)) := by
      rcases own_cases hown8 with ⟨h, h'⟩ | ⟨g6, cp6, rfl, _, _⟩
      · exfalso; omega
      have hgr := grown_new (grown_trans HG5.out (World.grownBy_alloc w5 _ _)) hgrow8 (own_block HO5.out)
      refine ⟨g6, cp6, by simp, ?_, hgr⟩
      rw [List.map_append, List.length_append]; exact hown8
    clear hown8 hgrow8 hat8 hne8 HO5 HG5
    have hzl8 : (zs ++ [z]).length ≤ 301 := by simp; omega
    generalize zs ++ [z] = zs8 at *
    go_wp2
    go_ret2
    unfold DrawnD
    exact ⟨zs8, g8, cp8, _, rfl, by omega, own_mono R8.out.1 (by omega), below_src HG1.out R8.out.2⟩
  by_cases q2 : q = 2
  · subst q2
    go_wp2_with fail
    refine (next_any w.heap.size ao n cap a4 sd4 3 _ hn (by omega) (by omega) (by omega) (by omega) hd4 hd5 HS4.out HC4.out).mono ?_
    rintro e w5 ⟨y, a5, sd5, rfl, hy0, hy1, ha6, ha7, hd6, hd7, hs5, hg5⟩
    obtain ⟨L, hLe, hL⟩ : ∃ L : Nat, 1024 + y = (L : Int) ∧ L ≤ 1030 := ⟨(1024 + y).toNat, by omega, by omega⟩
    have HG5 := hidd (grown_trans HG4.out hg5)
    have hz5 := HG5.out.size
    clear hs5 hg5 HS4 HC4 HO4 HG4
    go_wp2_with (at_make; refine wpList_make_full _ rfl _ _ 23 rfl w.heap.size 3 i0 (.int .i64 0) 1 Try.underlying23 hi hz0 hz1 _ _ _ _ L rfl rfl (by omega) (by omega) ?b2 ?b3 (by omega) ?_)
    case b2 => rw [hz2]; omega
    case b3 => unfold maxLen; omega
    intro w6 hown6 hgrow6
    have R6 : Hid (w6.ownsRow w.heap.size 3 1 (.slice (some ⟨w5.heap.size, 0, none⟩) L L) L ((List.replicate L (0 : Int)).map (Value.int .i64)) ∧ Below w.heap.size w w6) := by
      refine ⟨?_, (below_src HG1.out HG5.out).grown hgrow6 (by omega) (fun k h => by cases h)⟩
      have e0 : (madeCells #[Value.int .i64 0] L).toList = List.replicate L (Value.int .i64 0) := toList_madeCells_one _ _
      rw [e0] at hown6
      rw [List.map_replicate]
      exact hown6
    clear hown6 hgrow6
    go_wp2
    go_ret2
    unfold DrawnD
    exact ⟨List.replicate L 0, w5.heap.size, L, 2, by simp, by simp; omega, by simpa [zI] using R6.out.1, R6.out.2⟩
  · have e0 : (q == 0) = false := by simp; omega
    have e1 : (q == 1) = false := by simp; omega
    have e2 : (q == 2) = false := by simp; omega
    go_wp2
    go_ret2
    unfold DrawnD
    exact ⟨zs, g, cp, _, rfl, by omega, own_mono HO4.out (by omega), below_src HG1.out HG4.out⟩
end Go.Proofs.Ytboocdiilbcdcaa
