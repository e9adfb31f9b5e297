import Derived.Test.YtibomnmgiimejadSrcN
import Derived.Test.YtibomnmgiimejadPkI
import Derived.Test.YtibomnmgiimejadPkZ
namespace Go.Proofs.Ytibomnmgiimejad
open Go Go.RowKit
set_option linter.unusedVariables false

/-- A list of at most m numbers was drawn, by at most k bytes. -/
def DrawnL (w : World) (b : Nat) (cv : Value) (a k : Int) (m : Nat) (e : Ending) (w' : World) : Prop :=
  ∃ (zs : List Int) (g cp : Nat) (a' sd' : Int), e = .returned (.slice (some ⟨g, 0, none⟩) zs.length cp) ∧ zs.length ≤ m ∧ w'.ownsRow w.heap.size 3 1 (.slice (some ⟨g, 0, none⟩) zs.length cp) zs.length (zs.map (Value.int .i64)) ∧ a ≤ a' ∧ a' ≤ a + k ∧ 0 ≤ sd' ∧ sd' < 2147483648 ∧ SrcAt w' b cv a' sd' ∧ w.grownBy w' (some b)
theorem own_not {w : World} {base e n b : Nat} {v : Value} {xs : List Value} (h : w.ownsRow base e 1 v n xs) (hb : b < base) : v.ownBlock ≠ some b := fun e => by have := own_block h b e; omega

set_option maxHeartbeats 2000000 in
set_option maxRecDepth 100000 in
theorem drawList_any (b : Nat) (ao : Option Addr) (n cap : Nat) (a sd : Int) (w : World) (hn : n ≤ 1048576) (ha0 : 0 ≤ a) (ha2 : a ≤ 68719476736) (hs0 : 0 ≤ sd) (hs1 : sd < 2147483648)
    (hs : SrcAt w b (.slice ao n cap) a sd) (hc : Code w b ao n) :
    Calls Try.prog 27 #[.pointer (some ⟨b, 0, none⟩)] w fun e w' => DrawnL w b (.slice ao n cap) a 10000 300 e w' := by
  obtain ⟨i0, hi, hz0, hz1, hz2⟩ := info_parts Try.infoInt64
  have hb := hs.lt
  have HS := hidd (hs.alloc (.cells #[] 3))
  have HC := hidd (hc.alloc (.cells #[] 3))
  have HO0 := hidd (own_empty w 3)
  have HG0 := hidd (World.grownBy_alloc w (.cells #[] 3) (some b))
  have hc0 := hc
  clear hs hc
  go_enter Try.func27, Try.ntmps27
  go_wp2_with fail
  refine (size_any b ao n cap a sd 40 _ hn (by omega) (by omega) HS.out).mono ?_
  rintro e w' ⟨x, rfl, hx0, hx1, hw'⟩
  obtain rfl := hw'.symm
  clear hw'
  generalize w.alloc (.cells #[] 3) = w0 at *
  go_wp2_with fail
  refine (next_any b ao n cap a sd (x + 1) _ hn (by omega) (by omega) (by omega) (by omega) hs0 hs1 HS.out HC.out).mono ?_
  rintro e w2 ⟨y, a2, sd2, rfl, hy0, hy1, ha3, ha4, hd0, hd1, hs2, hg2⟩
  have HS2 := hidd hs2
  have HC2 := hidd (HC.out.kept hg2)
  have HO2 := hidd (HO0.out.kept hg2 (Or.inr (own_not HO0.out hb)))
  have HG2 := hidd (grown_trans HG0.out hg2)
  clear hs2 hg2 HS HC HO0 HG0
  go_wp2_with fail
  refine (chance_any b ao n cap a2 sd2 6 _ hn (by omega) (by omega) (by omega) (by omega) hd0 hd1 HS2.out HC2.out).mono ?_
  rintro e w3 ⟨q, a3, sd3, rfl, ha5, ha6, hd2, hd3, hs3, hg3⟩
  have HS3 := hidd hs3
  have HC3 := hidd (HC2.out.kept hg3)
  have HO3 := hidd (HO2.out.kept hg3 (Or.inr (own_not HO2.out hb)))
  have HG3 := hidd (grown_trans HG2.out hg3)
  clear hs3 hg3 HS2 HC2 HO2 HG2
  obtain ⟨Y, rfl⟩ := Int.eq_ofNat_of_zero_le hy0
  cases q
  all_goals
    first
    | (go_wp2_with fail
       refine (chance_any b ao n cap a3 sd3 2 _ hn (by omega) (by omega) (by omega) (by omega) hd2 hd3 HS3.out HC3.out).mono ?_
       rintro e w4 ⟨q, a4, sd4, rfl, ha7, ha8, hd4, hd5, hs4, hg4⟩
       have HS4 := hidd hs4
       have HC4 := hidd (HC3.out.kept hg4)
       have HO4 := hidd (HO3.out.kept hg4 (Or.inr (own_not HO3.out hb)))
       have HG4 := hidd (grown_trans HG3.out hg4)
       clear hs4 hg4 HS3 HC3 HO3 HG3
       obtain ⟨N, hNe, hN⟩ : ∃ N : Nat, (Y : Int) = (N : Int) ∧ N ≤ 300 := ⟨Y, rfl, by omega⟩
       have ha9 : a4 ≤ a + 30 := by omega
       have ha10 : a ≤ a4 := by omega)
    | (go_wp2_with fail
       refine (next_any b ao n cap a3 sd3 3 _ hn (by omega) (by omega) (by omega) (by omega) hd2 hd3 HS3.out HC3.out).mono ?_
       rintro e w5 ⟨u, a5, sd5, rfl, hu0, hu1, ha7, ha8, hd4, hd5, hs5, hg5⟩
       have HS5 := hidd hs5
       have HC5 := hidd (HC3.out.kept hg5)
       have HO5 := hidd (HO3.out.kept hg5 (Or.inr (own_not HO3.out hb)))
       have HG5 := hidd (grown_trans HG3.out hg5)
       clear hs5 hg5 HS3 HC3 HO3 HG3
       go_wp2_with fail
       refine (next_any b ao n cap a5 sd5 2 _ hn (by omega) (by omega) (by omega) (by omega) hd4 hd5 HS5.out HC5.out).mono ?_
       rintro e w6 ⟨v, a6, sd6, rfl, hv0, hv1, ha9, ha10, hd6, hd7, hs6, hg6⟩
       have HS6 := hidd hs6
       have HC6 := hidd (HC5.out.kept hg6)
       have HO6 := hidd (HO5.out.kept hg6 (Or.inr (own_not HO5.out hb)))
       have HG6 := hidd (grown_trans HG5.out hg6)
       clear hs6 hg6 HS5 HC5 HO5 HG5
       obtain ⟨N, hNe, hN⟩ : ∃ N : Nat, 127 + u + 128 * v = (N : Int) ∧ N ≤ 300 := ⟨(127 + u + 128 * v).toNat, by omega, by omega⟩
       go_wp2_with fail
       refine (chance_any b ao n cap a6 sd6 2 _ hn (by omega) (by omega) (by omega) (by omega) hd6 hd7 HS6.out HC6.out).mono ?_
       rintro e w4 ⟨q, a4, sd4, rfl, ha11, ha12, hd4, hd5, hs4, hg4⟩
       have HS4 := hidd hs4
       have HC4 := hidd (HC6.out.kept hg4)
       have HO4 := hidd (HO6.out.kept hg4 (Or.inr (own_not HO6.out hb)))
       have HG4 := hidd (grown_trans HG6.out hg4)
       clear hs4 hg4 HS6 HC6 HO6 HG6
       have ha9 : a4 ≤ a + 30 := by omega
       have ha10 : a ≤ a4 := by omega)
  all_goals
    go_wp2
    go_loopw [3, 4] (fun ov kv wr => ∃ (k : Nat) (zs : List Int) (g cp : Nat) (a1 sd1 : Int), kv = .int .i64 (k : Int) ∧ zs.length + k = N ∧ ov = .slice (some ⟨g, 0, none⟩) zs.length cp ∧ wr.ownsRow w.heap.size 3 1 (.slice (some ⟨g, 0, none⟩) zs.length cp) zs.length (zs.map (Value.int .i64)) ∧ a ≤ a1 ∧ a1 + 9 * (k : Int) ≤ a + 30 + 9 * (N : Int) ∧ 0 ≤ sd1 ∧ sd1 < 2147483648 ∧ SrcAt wr b (.slice ao n cap) a1 sd1 ∧ w.grownBy wr (some b)) (fun _ kv _ => (intOf kv).toNat)
    case atStart => exact ⟨N, [], w.heap.size, 0, a4, sd4, by first | rfl | rw [hNe] | (congr 1; omega), by simp, rfl, HO4.out, by omega, by omega, hd4, hd5, HS4.out, HG4.out⟩
    case round =>
      obtain ⟨k, zs, g, cp, a1, sd1, rfl, hzk, rfl, hown, hb0, hb1, hb2, hb3, hsr, hgr⟩ := hrel
      have HOr := hidd hown
      have HSr := hidd hsr
      have HGr := hidd hgr
      have HCr := hidd (hc0.kept hgr)
      have hgz := hgr.size
      clear hown hsr hgr HS4 HO4 HG4
      by_cases hk : 0 < k
      · have hkz : (0 : Int) < (k : Int) := by omega
        go_wp2_with fail
        refine (drawNum_any b ao n cap a1 sd1 _ hn (by omega) (by omega) hb2 hb3 HSr.out HCr.out).mono ?_
        rintro e w1 ⟨x1, a2', sd2', rfl, hc1, hc2, hc3, hc4, hs2, hg2⟩
        have HS2 := hidd hs2
        have HO2 := hidd (HOr.out.kept hg2 (Or.inr (own_not HOr.out hb)))
        have HG2 := hidd (grown_trans HGr.out hg2)
        have hgz2 := HG2.out.size
        clear hs2 hg2 HSr HGr HOr HCr
        cases q with
        | false =>
          go_wp2_with (at_builtin; refine wpList_append_own_at _ rfl _ _ 23 rfl w.heap.size 3 i0 (.int .i64 0) 1 8 Try.underlying23 hi hz0 hz1 hz2 rfl (by decide) _ _ _ rfl (HO2.out.alloc _) ⟨w1.heap.size, 0, none⟩ 1 1 [.int .i64 x1] rfl rfl ?c1 ?c2 ?c3 ?c4 ?c5 ?_)
          try case c1 =>
            intro j u hj
            match j, hj with
            | 0, hj => simp at hj; subst hj; simp [Addr.add]
          case c2 => first | rfl | (intro u hu; simp at hu; subst hu; rfl)
          case c3 => unfold maxLen; omega
          case c4 => omega
          case c5 => simp; omega
          intro v6 w6 hown6 hgrow6 hne6 hat6
          have R6 : Hid (∃ g6 cp6, v6 = .slice (some ⟨g6, 0, none⟩) (zs.length + 1) cp6 ∧ w6.ownsRow w.heap.size 3 1 (.slice (some ⟨g6, 0, none⟩) (zs.length + 1) cp6) (zs.length + 1) ((zs ++ [x1]).map (Value.int .i64)) ∧ SrcAt w6 b (.slice ao n cap) a2' sd2' ∧ w.grownBy w6 (some b)) := by
            rcases own_cases hown6 with ⟨h, h'⟩ | ⟨g6, cp6, rfl, _, _⟩
            · exfalso; omega
            refine ⟨g6, cp6, rfl, ?_, (HS2.out.alloc _).kept hgrow6 (own_not HO2.out hb), grown_new (grown_trans HG2.out (World.grownBy_alloc w1 _ _)) hgrow6 (own_block HO2.out)⟩
            rw [List.map_append]; exact hown6
          clear hown6 hgrow6 hat6 hne6 HO2 HS2 HG2
          obtain ⟨g6, cp6, rfl, ho6, hs6, hgg6⟩ := R6.out
          have R7 := hidd (And.intro ho6 (And.intro hs6 hgg6))
          clear ho6 hs6 hgg6 R6
          go_wp2
          go_roundw
          · exact ⟨k - 1, zs ++ [x1], g6, cp6, a2', sd2', by go_num, by simp; omega, by simp, by simpa using R7.out.1, by omega, by omega, hc3, hc4, R7.out.2.1, R7.out.2.2⟩
          · simp [intOf]; omega
        | true =>
          go_wp2_with (at_builtin; refine wpList_append_own_at _ rfl _ _ 23 rfl w.heap.size 3 i0 (.int .i64 0) 1 8 Try.underlying23 hi hz0 hz1 hz2 rfl (by decide) _ _ _ rfl (HO2.out.alloc _) ⟨w1.heap.size, 0, none⟩ 1 1 [.int .i64 (x1.tmod 16)] rfl rfl ?c1 ?c2 ?c3 ?c4 ?c5 ?_)
          try case c1 =>
            intro j u hj
            match j, hj with
            | 0, hj => simp at hj; subst hj; simp [Addr.add]
          case c2 => first | rfl | (intro u hu; simp at hu; subst hu; rfl)
          case c3 => unfold maxLen; omega
          case c4 => omega
          case c5 => simp; omega
          intro v6 w6 hown6 hgrow6 hne6 hat6
          have R6 : Hid (∃ g6 cp6, v6 = .slice (some ⟨g6, 0, none⟩) (zs.length + 1) cp6 ∧ w6.ownsRow w.heap.size 3 1 (.slice (some ⟨g6, 0, none⟩) (zs.length + 1) cp6) (zs.length + 1) ((zs ++ [(x1.tmod 16)]).map (Value.int .i64)) ∧ SrcAt w6 b (.slice ao n cap) a2' sd2' ∧ w.grownBy w6 (some b)) := by
            rcases own_cases hown6 with ⟨h, h'⟩ | ⟨g6, cp6, rfl, _, _⟩
            · exfalso; omega
            refine ⟨g6, cp6, rfl, ?_, (HS2.out.alloc _).kept hgrow6 (own_not HO2.out hb), grown_new (grown_trans HG2.out (World.grownBy_alloc w1 _ _)) hgrow6 (own_block HO2.out)⟩
            rw [List.map_append]; exact hown6
          clear hown6 hgrow6 hat6 hne6 HO2 HS2 HG2
          obtain ⟨g6, cp6, rfl, ho6, hs6, hgg6⟩ := R6.out
          have R7 := hidd (And.intro ho6 (And.intro hs6 hgg6))
          clear ho6 hs6 hgg6 R6
          go_wp2
          go_roundw
          · exact ⟨k - 1, zs ++ [(x1.tmod 16)], g6, cp6, a2', sd2', by go_num, by simp; omega, by simp, by simpa using R7.out.1, by omega, by omega, hc3, hc4, R7.out.2.1, R7.out.2.2⟩
          · simp [intOf]; omega
      · have hk0 : k = 0 := by omega
        subst hk0
        go_wp2
        go_ret
        unfold DrawnL
        exact ⟨zs, g, cp, a1, sd1, rfl, by omega, HOr.out, by omega, by omega, hb2, hb3, HSr.out, HGr.out⟩
end Go.Proofs.Ytibomnmgiimejad
