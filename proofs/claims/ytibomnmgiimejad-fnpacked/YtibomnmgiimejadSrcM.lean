import Derived.Test.YtibomnmgiimejadSrcL
namespace Go.Proofs.Ytibomnmgiimejad
open Go Go.RowKit
set_option linter.unusedVariables false

/-- A list of numbers was drawn from a code. -/
def DrawnC (w : World) (m : Nat) (e : Ending) (w' : World) : Prop :=
  ∃ (zs : List Int) (g cp : Nat), e = .returned (.slice (some ⟨g, 0, none⟩) zs.length cp) ∧ zs.length ≤ m ∧ w'.ownsRow w.heap.size 3 1 (.slice (some ⟨g, 0, none⟩) zs.length cp) zs.length (zs.map (Value.int .i64)) ∧ Below w.heap.size w w'

set_option maxHeartbeats 4000000 in
set_option maxRecDepth 100000 in
theorem drawPack_any (ao : Option Addr) (n cap : Nat) (w : World) (hn : n ≤ 1048576) (hc : CodeIn w ao n) :
    Calls Try.prog 5 #[.slice ao n cap] w fun e w' => DrawnC w 4200 e w' := by
  obtain ⟨i0, hi, hz0, hz1, hz2⟩ := info_parts Try.infoInt64
  have HC := hidd hc
  clear hc
  go_enter Try.func5, Try.ntmps5
  go_wp2_with fail
  refine (source_any ao n cap _ hn).mono ?_
  rintro e w1 ⟨rfl, hs1, hg1⟩
  have HG1 := hidd hg1
  have HC1 := hidd (HC.out.code hg1)
  have HS1 := hidd hs1
  have hbw : w.heap.size < w1.heap.size := hs1.lt
  have hm0 : 0 ≤ (n : Int) % 1000 := Int.emod_nonneg _ (by omega)
  have hm1 : (n : Int) % 1000 < 2147483648 := by have := Int.emod_lt_of_pos (n : Int) (by omega : (0 : Int) < 1000); omega
  generalize (n : Int) % 1000 = sd0 at *
  clear hs1 hg1
  go_wp2_with fail
  refine (drawList_any w.heap.size ao n cap 0 sd0 _ hn (by omega) (by omega) hm0 hm1 HS1.out HC1.out).mono ?_
  rintro e w2 ⟨zs, g, cp, a2, sd2, rfl, hzl, hown2, ha0, ha1, hd0, hd1, hs2, hg2⟩
  have HO2 := hidd hown2
  have HS2 := hidd hs2
  have HC2 := hidd (HC1.out.kept hg2)
  have HG2 := hidd hg2
  clear hown2 hs2 hg2 HS1
  go_wp2_with fail
  refine (chance_any w.heap.size ao n cap a2 sd2 8 _ hn (by omega) (by omega) (by omega) (by omega) hd0 hd1 HS2.out HC2.out).mono ?_
  rintro e w3 ⟨q3, a3, sd3, rfl, ha2, ha3, hd2, hd3, hs3, hg3⟩
  have HS3 := hidd hs3
  have HC3 := hidd (HC2.out.kept hg3)
  have HO3 := hidd (HO2.out.kept hg3 (Or.inr (own_not HO2.out hbw)))
  have HG3 := hidd (grown_trans HG2.out hg3)
  clear hs3 hg3 HS2 HC2 HO2 HG2
  cases q3 with
  | false =>
    go_wp2_with fail
    refine (chance_any w.heap.size ao n cap a3 sd3 60 _ hn (by omega) (by omega) (by omega) (by omega) hd2 hd3 HS3.out HC3.out).mono ?_
    rintro e w4 ⟨q4, a4, sd4, rfl, ha4, ha5, hd4, hd5, hs4, hg4⟩
    have HS4 := hidd hs4
    have HC4 := hidd (HC3.out.kept hg4)
    have HO4 := hidd (HO3.out.kept hg4 (Or.inr (own_not HO3.out hbw)))
    have HG4 := hidd (grown_trans HG3.out hg4)
    clear hs4 hg4 HS3 HC3 HO3 HG3
    cases q4 with
    | false =>
      go_wp2
      go_ret
      unfold DrawnC
      exact ⟨zs, g, cp, rfl, by omega, own_mono HO4.out (by omega), below_src HG1.out HG4.out⟩
    | true =>
      go_wp2_with fail
      refine (next_any w.heap.size ao n cap a4 sd4 2 _ hn (by omega) (by omega) (by omega) (by omega) hd4 hd5 HS4.out HC4.out).mono ?_
      rintro e w5 ⟨y, a5, sd5, rfl, hy0, hy1, ha6, ha7, hd6, hd7, hs5, hg5⟩
      obtain ⟨L, hLe, hL⟩ : ∃ L : Nat, 4096 + y = (L : Int) ∧ L ≤ 4097 := ⟨(4096 + y).toNat, by omega, by omega⟩
      have HG5 := hidd (grown_trans HG4.out hg5)
      have hz5 := HG5.out.size
      clear hs5 hg5 HS4 HC4 HO4 HG4
      go_wp2_with (at_make; refine wpList_make_full _ rfl _ _ 23 rfl w.heap.size 3 i0 (.int .i64 0) 1 Try.underlying23 hi hz0 hz1 _ _ _ _ L rfl rfl (by omega) (by omega) ?b2 ?b3 (by omega) ?_)
      case b2 => rw [hz2]; omega
      case b3 => unfold maxLen; omega
      intro w6 hown6 hgrow6
      have R6 : Hid (w6.ownsRow w.heap.size 3 1 (.slice (some ⟨w5.heap.size, 0, none⟩) L L) L ((List.replicate L (0 : Int)).map (Value.int .i64)) ∧ Below w.heap.size w w6) := by
        refine ⟨?_, (below_src HG1.out HG5.out).grown hgrow6 (by omega) (fun k h => by cases h)⟩
        have e0 : (madeCells #[Value.int .i64 0] L).toList = List.replicate L (Value.int .i64 0) := toList_madeCells_one _ _
        rw [e0] at hown6
        rw [List.map_replicate]
        exact hown6
      clear hown6 hgrow6
      go_wp2
      go_ret
      unfold DrawnC
      exact ⟨List.replicate L 0, w5.heap.size, L, by simp, by simp; omega, by simpa using R6.out.1, R6.out.2⟩
  | true =>
    go_wp2_with fail
    refine (drawOdd_any w.heap.size ao n cap a3 sd3 _ hn (by omega) (by omega) hd2 hd3 HS3.out HC3.out).mono ?_
    rintro e w7 ⟨x7, a7, sd7, rfl, hb0, hb1, hb2, hb3, hs7, hg7⟩
    have HS7 := hidd hs7
    have HC7 := hidd (HC3.out.kept hg7)
    have HO7 := hidd (HO3.out.kept hg7 (Or.inr (own_not HO3.out hbw)))
    have HG7 := hidd (grown_trans HG3.out hg7)
    have hz7 := HG7.out.size
    clear hs7 hg7 HS3 HC3 HO3 HG3
    go_wp2_with (at_builtin; refine wpList_append_own_at _ rfl _ _ 23 rfl w1.heap.size 3 i0 (.int .i64 0) 1 8 Try.underlying23 hi hz0 hz1 hz2 rfl (by decide) _ _ _ rfl (HO7.out.alloc _) ⟨w7.heap.size, 0, none⟩ 1 1 [.int .i64 x7] rfl rfl ?c1 ?c2 ?c3 ?c4 ?c5 ?_)
    try case c1 =>
      intro j u hj
      match j, hj with
      | 0, hj => simp at hj; subst hj; simp [Addr.add]
    case c2 => first | rfl | (intro u hu; simp at hu; subst hu; rfl)
    case c3 => unfold maxLen; omega
    case c4 => omega
    case c5 => simp; omega
    intro v8 w8 hown8 hgrow8 hne8 hat8
    obtain ⟨g8, cp8, rfl, R8⟩ : ∃ g8 cp8, v8 = .slice (some ⟨g8, 0, none⟩) (zs ++ [x7]).length cp8 ∧ Hid (w8.ownsRow w1.heap.size 3 1 (.slice (some ⟨g8, 0, none⟩) (zs ++ [x7]).length cp8) (zs ++ [x7]).length ((zs ++ [x7]).map (Value.int .i64)) ∧ SrcAt w8 w.heap.size (.slice ao n cap) a7 sd7 ∧ Code w8 w.heap.size ao n ∧ w1.grownBy w8 (some w.heap.size)) := by
      rcases own_cases hown8 with ⟨h, h'⟩ | ⟨g6, cp6, rfl, _, _⟩
      · exfalso; omega
      have hgr := grown_new (grown_trans HG7.out (World.grownBy_alloc w7 _ _)) hgrow8 (own_block HO7.out)
      refine ⟨g6, cp6, by simp, ?_, (HS7.out.alloc _).kept hgrow8 (own_not HO7.out hbw), HC1.out.kept hgr, hgr⟩
      rw [List.map_append, List.length_append]; exact hown8
    clear hown8 hgrow8 hat8 hne8 HO7 HS7 HG7 HC7
    have HO3 := hidd R8.out.1
    have HS3 := hidd R8.out.2.1
    have HC3 := hidd R8.out.2.2.1
    have HG3 := hidd R8.out.2.2.2
    have hzl8 : (zs ++ [x7]).length ≤ 301 := by simp; omega
    clear R8
    generalize zs ++ [x7] = zs8 at *
    go_wp2_with fail
    refine (chance_any w.heap.size ao n cap a7 sd7 60 _ hn (by omega) (by omega) (by omega) (by omega) hb2 hb3 HS3.out HC3.out).mono ?_
    rintro e w4 ⟨q4, a4, sd4, rfl, ha4, ha5, hd4, hd5, hs4, hg4⟩
    have HS4 := hidd hs4
    have HC4 := hidd (HC3.out.kept hg4)
    have HO4 := hidd (HO3.out.kept hg4 (Or.inr (own_not HO3.out hbw)))
    have HG4 := hidd (grown_trans HG3.out hg4)
    clear hs4 hg4 HS3 HC3 HO3 HG3
    cases q4 with
    | false =>
      go_wp2
      go_ret
      unfold DrawnC
      exact ⟨zs8, g8, cp8, rfl, by omega, own_mono HO4.out (by omega), below_src HG1.out HG4.out⟩
    | true =>
      go_wp2_with fail
      refine (next_any w.heap.size ao n cap a4 sd4 2 _ hn (by omega) (by omega) (by omega) (by omega) hd4 hd5 HS4.out HC4.out).mono ?_
      rintro e w5 ⟨y, a5, sd5, rfl, hy0, hy1, ha6, ha7, hd6, hd7, hs5, hg5⟩
      obtain ⟨L, hLe, hL⟩ : ∃ L : Nat, 4096 + y = (L : Int) ∧ L ≤ 4097 := ⟨(4096 + y).toNat, by omega, by omega⟩
      have HG5 := hidd (grown_trans HG4.out hg5)
      have hz5 := HG5.out.size
      clear hs5 hg5 HS4 HC4 HO4 HG4
      go_wp2_with (at_make; refine wpList_make_full _ rfl _ _ 23 rfl w.heap.size 3 i0 (.int .i64 0) 1 Try.underlying23 hi hz0 hz1 _ _ _ _ L rfl rfl (by omega) (by omega) ?b2 ?b3 (by omega) ?_)
      case b2 => rw [hz2]; omega
      case b3 => unfold maxLen; omega
      intro w6 hown6 hgrow6
      have R6 : Hid (w6.ownsRow w.heap.size 3 1 (.slice (some ⟨w5.heap.size, 0, none⟩) L L) L ((List.replicate L (0 : Int)).map (Value.int .i64)) ∧ Below w.heap.size w w6) := by
        refine ⟨?_, (below_src HG1.out HG5.out).grown hgrow6 (by omega) (fun k h => by cases h)⟩
        have e0 : (madeCells #[Value.int .i64 0] L).toList = List.replicate L (Value.int .i64 0) := toList_madeCells_one _ _
        rw [e0] at hown6
        rw [List.map_replicate]
        exact hown6
      clear hown6 hgrow6
      go_wp2
      go_ret
      unfold DrawnC
      exact ⟨List.replicate L 0, w5.heap.size, L, by simp, by simp; omega, by simpa using R6.out.1, R6.out.2⟩
end Go.Proofs.Ytibomnmgiimejad
