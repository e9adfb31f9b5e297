import Derived.Test.YtibomnmgiimejadSrcM
namespace Go.Proofs.Ytibomnmgiimejad
open Go Go.RowKit
set_option linter.unusedVariables false

theorem ints_set (ys : List Int) (k : Nat) (x : Int) : (ys.map (Value.int .i64)).set k (.int .i64 x) = (ys.set k x).map (Value.int .i64) := by rw [List.map_set]
theorem ints_at' (ys : List Int) (k : Nat) (h : k < ys.length) : (ys.map (Value.int .i64))[k]? = some (.int .i64 (ys.getD k 0)) := by simp [h]

set_option maxHeartbeats 4000000 in
set_option maxRecDepth 100000 in
theorem drawRising_any (b : Nat) (ao : Option Addr) (n cap : Nat) (a sd : Int) (w : World) (hn : n ≤ 1048576) (ha0 : 0 ≤ a) (ha2 : a ≤ 68719476736) (hs0 : 0 ≤ sd) (hs1 : sd < 2147483648)
    (hs : SrcAt w b (.slice ao n cap) a sd) (hc : Code w b ao n) :
    Calls Try.prog 39 #[.pointer (some ⟨b, 0, none⟩)] w fun e w' => DrawnL w b (.slice ao n cap) a 10000 300 e w' := by
  have HS := hidd hs
  have HC := hidd hc
  have hb := hs.lt
  clear hs hc
  go_enter Try.func39, Try.ntmps39
  go_wp2_with fail
  refine (drawList_any b ao n cap a sd _ hn (by omega) (by omega) hs0 hs1 HS.out HC.out).mono ?_
  rintro e w2 ⟨zs, g, cp, a2, sd2, rfl, hzl, hown2, ha3, ha4, hd0, hd1, hs2, hg2⟩
  have HO2 := hidd hown2
  have HS2 := hidd hs2
  have HG2 := hidd hg2
  clear hown2 hs2 hg2 HS HC
  go_wp2
  go_loopw [4, 5] (fun av iv wr => ∃ (k : Nat) (ys : List Int) (x : Int), k ≤ zs.length ∧ iv = .int .i64 (k : Int) ∧ av = .int .i64 x ∧ ys.length = zs.length ∧ wr.ownsRow w.heap.size 3 1 (.slice (some ⟨g, 0, none⟩) zs.length cp) zs.length (ys.map (Value.int .i64)) ∧ SrcAt wr b (.slice ao n cap) a2 sd2 ∧ w.grownBy wr (some b)) (fun _ iv _ => zs.length - (intOf iv).toNat)
  case atStart => exact ⟨0, zs, 0, Nat.zero_le _, rfl, rfl, rfl, HO2.out, HS2.out, HG2.out⟩
  case round =>
    obtain ⟨k, ys, x, hk, rfl, rfl, hyl, hown, hsr, hgr⟩ := hrel
    have HO := hidd hown
    have HSr := hidd hsr
    have HGr := hidd hgr
    clear hown hsr hgr HO2 HS2 HG2
    by_cases hlt : k < zs.length
    · have hkz : (k : Int) < (zs.length : Int) := by omega
      have f1 := HO.out.frozenAt k
      have g1 : wr.cell? ⟨g, k, none⟩ = some (.int .i64 (ys.getD k 0)) := by rw [HO.out.cellAt k (by omega)]; exact ints_at' ys k (by omega)
      generalize ys.getD k 0 = v at *
      have Hst : Hid (∀ X : Int, (wr.setCell ⟨g, k, none⟩ (.int .i64 X)).ownsRow w.heap.size 3 1 (.slice (some ⟨g, 0, none⟩) zs.length cp) zs.length ((ys.set k X).map (Value.int .i64)) ∧ SrcAt (wr.setCell ⟨g, k, none⟩ (.int .i64 X)) b (.slice ao n cap) a2 sd2 ∧ w.grownBy (wr.setCell ⟨g, k, none⟩ (.int .i64 X)) (some b)) := fun X => by
        have h := (HO.out.stored k (.int .i64 X)).1
        rw [ints_set] at h
        exact ⟨h, HSr.out.kept (grown_set wr g k _) (own_not HO.out hb), grown_new HGr.out (grown_set wr g k _) (fun q e => by cases e; exact own_block HO.out g rfl)⟩
      go_wp2
      go_roundw
      case rel => exact ⟨k + 1, ys.set k _, _, by omega, by go_num, rfl, by simpa using hyl, (Hst.out _).1, (Hst.out _).2.1, (Hst.out _).2.2⟩
      case measure => simp [intOf]; omega
    · go_wp2
      go_ret
      unfold DrawnL
      exact ⟨ys, g, cp, a2, sd2, by rw [hyl]; rfl, by omega, by rw [hyl]; exact HO.out, by omega, by omega, hd0, hd1, HSr.out, HGr.out⟩

set_option maxHeartbeats 4000000 in
set_option maxRecDepth 100000 in
theorem drawPackR_any (ao : Option Addr) (n cap : Nat) (w : World) (hn : n ≤ 1048576) (hc : CodeIn w ao n) :
    Calls Try.prog 12 #[.slice ao n cap] w fun e w' => DrawnC w 4200 e w' := by
  obtain ⟨i0, hi, hz0, hz1, hz2⟩ := info_parts Try.infoInt64
  have HC := hidd hc
  clear hc
  go_enter Try.func12, Try.ntmps12
  go_wp2_with fail
  refine (source_any ao n cap _ hn).mono ?_
  rintro e w1 ⟨rfl, hs1, hg1⟩
  have HG1 := hidd hg1
  have HC1 := hidd (HC.out.code hg1)
  have HS1 := hidd hs1
  have hbw : w.heap.size < w1.heap.size := hs1.lt
  have hm0 : 0 ≤ (n : Int) % 1000 := Int.emod_nonneg _ (by omega)
  have hm1 : (n : Int) % 1000 < 2147483648 := by have := Int.emod_lt_of_pos (n : Int) (by omega : (0 : Int) < 1000); omega
  generalize (n : Int) % 1000 = sd0 at *
  clear hs1 hg1
  go_wp2_with fail
  refine (drawRising_any w.heap.size ao n cap 0 sd0 _ hn (by omega) (by omega) hm0 hm1 HS1.out HC1.out).mono ?_
  rintro e w2 ⟨zs, g, cp, a2, sd2, rfl, hzl, hown2, ha0, ha1, hd0, hd1, hs2, hg2⟩
  have HO2 := hidd hown2
  have HS2 := hidd hs2
  have HC2 := hidd (HC1.out.kept hg2)
  have HG2 := hidd hg2
  clear hown2 hs2 hg2 HS1
  by_cases hl0 : zs.length = 0
  · obtain rfl : zs = [] := List.length_eq_zero_iff.1 hl0
    go_wp2_with fail
    refine (chance_any w.heap.size ao n cap a2 sd2 10 _ hn (by omega) (by omega) (by omega) (by omega) hd0 hd1 HS2.out HC2.out).mono ?_
    rintro e w5 ⟨q5, a5, sd5, rfl, hx0, hx1, hx2, hx3, hs5, hg5⟩
    have HO5 := hidd (HO2.out.kept hg5 (Or.inr (own_not HO2.out hbw)))
    have HG5 := hidd (grown_trans HG2.out hg5)
    have hz5 := HG5.out.size
    clear hs5 hg5 HS2 HC2 HO2 HG2
    cases q5 with
    | false =>
      go_wp2
      go_ret
      unfold DrawnC
      exact ⟨([] : List Int), g, cp, rfl, by simp, own_mono HO5.out (by omega), below_src HG1.out HG5.out⟩
    | true =>
      go_wp2_with (at_builtin; refine wpList_append_own_at _ rfl _ _ 23 rfl w1.heap.size 3 i0 (.int .i64 0) 1 8 Try.underlying23 hi hz0 hz1 hz2 rfl (by decide) _ _ _ rfl (HO5.out.alloc _) ⟨w5.heap.size, 0, none⟩ 1 1 [.int .i64 4611686018427387903] rfl rfl ?c1 ?c2 ?c3 ?c4 ?c5 ?_)
      try case c1 =>
        intro j u hj
        match j, hj with
        | 0, hj => simp at hj; subst hj; simp [Addr.add]
      case c2 => first | rfl | (intro u hu; simp at hu; subst hu; rfl)
      case c3 => unfold maxLen; simp
      case c4 => omega
      case c5 => simp; omega
      intro v8 w8 hown8 hgrow8 hne8 hat8
      obtain ⟨g8, cp8, rfl, R8⟩ : ∃ g8 cp8, v8 = .slice (some ⟨g8, 0, none⟩) (([] : List Int) ++ [4611686018427387903]).length cp8 ∧ Hid (w8.ownsRow w1.heap.size 3 1 (.slice (some ⟨g8, 0, none⟩) (([] : List Int) ++ [4611686018427387903]).length cp8) (([] : List Int) ++ [4611686018427387903]).length ((([] : List Int) ++ [4611686018427387903]).map (Value.int .i64)) ∧ w1.grownBy w8 (some w.heap.size)) := by
        rcases own_cases hown8 with ⟨h, h'⟩ | ⟨g6, cp6, rfl, _, _⟩
        · exfalso; simp at h'
        have hgr := grown_new (grown_trans HG5.out (World.grownBy_alloc w5 _ _)) hgrow8 (own_block HO5.out)
        refine ⟨g6, cp6, by simp, ?_, hgr⟩
        rw [List.map_append, List.length_append]; exact hown8
      clear hown8 hgrow8 hat8 hne8 HO5 HG5
      go_wp2
      go_ret
      unfold DrawnC
      exact ⟨([] : List Int) ++ [4611686018427387903], g8, cp8, by simp, by simp, own_mono R8.out.1 (by omega), below_src HG1.out R8.out.2⟩
  · have hlz : (0 : Int) < (zs.length : Int) := by omega
    go_wp2_with fail
    refine (chance_any w.heap.size ao n cap a2 sd2 4 _ hn (by omega) (by omega) (by omega) (by omega) hd0 hd1 HS2.out HC2.out).mono ?_
    rintro e w3 ⟨q3, a3, sd3, rfl, ha2, ha3, hd2, hd3, hs3, hg3⟩
    have HS3 := hidd hs3
    have HC3 := hidd (HC2.out.kept hg3)
    have HO3 := hidd (HO2.out.kept hg3 (Or.inr (own_not HO2.out hbw)))
    have HG3 := hidd (grown_trans HG2.out hg3)
    clear hs3 hg3 HS2 HC2 HO2 HG2
    cases q3 with
    | false =>
      go_wp2_with fail
      refine (chance_any w.heap.size ao n cap a3 sd3 10 _ hn (by omega) (by omega) (by omega) (by omega) hd2 hd3 HS3.out HC3.out).mono ?_
      rintro e w5 ⟨q5, a5, sd5, rfl, hx0, hx1, hx2, hx3, hs5, hg5⟩
      have HO5 := hidd (HO3.out.kept hg5 (Or.inr (own_not HO3.out hbw)))
      have HG5 := hidd (grown_trans HG3.out hg5)
      have hz5 := HG5.out.size
      clear hs5 hg5 HS3 HC3 HO3 HG3
      cases q5 with
      | false =>
        go_wp2
        go_ret
        unfold DrawnC
        exact ⟨zs, g, cp, rfl, by omega, own_mono HO5.out (by omega), below_src HG1.out HG5.out⟩
      | true =>
        go_wp2_with (at_builtin; refine wpList_append_own_at _ rfl _ _ 23 rfl w1.heap.size 3 i0 (.int .i64 0) 1 8 Try.underlying23 hi hz0 hz1 hz2 rfl (by decide) _ _ _ rfl (HO5.out.alloc _) ⟨w5.heap.size, 0, none⟩ 1 1 [.int .i64 4611686018427387903] rfl rfl ?c1 ?c2 ?c3 ?c4 ?c5 ?_)
        try case c1 =>
          intro j u hj
          match j, hj with
          | 0, hj => simp at hj; subst hj; simp [Addr.add]
        case c2 => first | rfl | (intro u hu; simp at hu; subst hu; rfl)
        case c3 => unfold maxLen; omega
        case c4 => omega
        case c5 => simp; omega
        intro v8 w8 hown8 hgrow8 hne8 hat8
        obtain ⟨g8, cp8, rfl, R8⟩ : ∃ g8 cp8, v8 = .slice (some ⟨g8, 0, none⟩) (zs ++ [4611686018427387903]).length cp8 ∧ Hid (w8.ownsRow w1.heap.size 3 1 (.slice (some ⟨g8, 0, none⟩) (zs ++ [4611686018427387903]).length cp8) (zs ++ [4611686018427387903]).length ((zs ++ [4611686018427387903]).map (Value.int .i64)) ∧ w1.grownBy w8 (some w.heap.size)) := by
          rcases own_cases hown8 with ⟨h, h'⟩ | ⟨g6, cp6, rfl, _, _⟩
          · exfalso; simp at h'
          have hgr := grown_new (grown_trans HG5.out (World.grownBy_alloc w5 _ _)) hgrow8 (own_block HO5.out)
          refine ⟨g6, cp6, by simp, ?_, hgr⟩
          rw [List.map_append, List.length_append]; exact hown8
        clear hown8 hgrow8 hat8 hne8 HO5 HG5
        go_wp2
        go_ret
        unfold DrawnC
        exact ⟨zs ++ [4611686018427387903], g8, cp8, by simp, by simp; omega, own_mono R8.out.1 (by omega), below_src HG1.out R8.out.2⟩
    | true =>
      go_wp2_with fail
      refine (next_any w.heap.size ao n cap a3 sd3 (zs.length : Int) _ hn (by omega) (by omega) (by omega) (by omega) hd2 hd3 HS3.out HC3.out).mono ?_
      rintro e w6 ⟨y, a6, sd6, rfl, hy0, hy1, ha4, ha5, hd4, hd5, hs6, hg6⟩
      obtain ⟨Y, rfl⟩ := Int.eq_ofNat_of_zero_le hy0
      have HS6 := hidd hs6
      have HC6 := hidd (HC3.out.kept hg6)
      have HO6 := hidd (HO3.out.kept hg6 (Or.inr (own_not HO3.out hbw)))
      have HG6 := hidd (grown_trans HG3.out hg6)
      clear hs6 hg6 HS3 HC3 HO3 HG3
      have hYl : Y < zs.length := by omega
      have hYz : (Y : Int) < (zs.length : Int) := by omega
      go_wp2_with fail
      refine (drawOdd_any w.heap.size ao n cap a6 sd6 _ hn (by omega) (by omega) hd4 hd5 HS6.out HC6.out).mono ?_
      rintro e w7 ⟨x7, a7, sd7, rfl, hb0, hb1, hb2, hb3, hs7, hg7⟩
      have HO7 := hidd (HO6.out.kept hg7 (Or.inr (own_not HO6.out hbw)))
      have HG7 := hidd (grown_trans HG6.out hg7)
      have HS7 := hidd hs7
      clear hs7 hg7 HS6 HC6 HO6 HG6
      have f1 := HO7.out.frozenAt Y
      have g1 : w7.cell? ⟨g, Y, none⟩ = some (.int .i64 (zs.getD Y 0)) := by rw [HO7.out.cellAt Y (by omega)]; exact ints_at' zs Y (by omega)
      obtain ⟨W, hWe, R9⟩ : ∃ W, W = w7.setCell ⟨g, Y, none⟩ (.int .i64 x7) ∧ Hid (W.ownsRow w1.heap.size 3 1 (.slice (some ⟨g, 0, none⟩) zs.length cp) zs.length ((zs.set Y x7).map (Value.int .i64)) ∧ SrcAt W w.heap.size (.slice ao n cap) a7 sd7 ∧ Code W w.heap.size ao n ∧ w1.grownBy W (some w.heap.size)) := by
        have h := (HO7.out.stored Y (.int .i64 x7)).1
        rw [ints_set] at h
        have hgr := grown_new HG7.out (grown_set w7 g Y (.int .i64 x7)) (fun q e => by cases e; exact own_block HO7.out g rfl)
        exact ⟨_, rfl, h, HS7.out.kept (grown_set w7 g Y _) (own_not HO7.out hbw), HC1.out.kept hgr, hgr⟩
      have hset : (zs.set Y x7).length = zs.length := by simp
      clear HO7 HG7 HS7
      go_wp2_with fail
      rw [← hWe]
      rw [← hset] at R9
      have HO3 := hidd R9.out.1
      have HS3 := hidd R9.out.2.1
      have HC3 := hidd R9.out.2.2.1
      have HG3 := hidd R9.out.2.2.2
      have hzl8 : (zs.set Y x7).length ≤ 300 := by omega
      rw [← hset]
      clear R9 hWe f1 g1 hYz hYl hlz hl0
      generalize zs.set Y x7 = zs8 at *
      clear hset
      skip
      skip
      refine (chance_any w.heap.size ao n cap a7 sd7 10 _ hn (by omega) (by omega) (by omega) (by omega) hb2 hb3 HS3.out HC3.out).mono ?_
      rintro e w5 ⟨q5, a5, sd5, rfl, hx0, hx1, hx2, hx3, hs5, hg5⟩
      have HO5 := hidd (HO3.out.kept hg5 (Or.inr (own_not HO3.out hbw)))
      have HG5 := hidd (grown_trans HG3.out hg5)
      have hz5 := HG5.out.size
      clear hs5 hg5 HS3 HC3 HO3 HG3
      cases q5 with
      | false =>
        go_wp2
        go_ret
        unfold DrawnC
        exact ⟨zs8, g, cp, rfl, by omega, own_mono HO5.out (by omega), below_src HG1.out HG5.out⟩
      | true =>
        go_wp2_with (at_builtin; refine wpList_append_own_at _ rfl _ _ 23 rfl w1.heap.size 3 i0 (.int .i64 0) 1 8 Try.underlying23 hi hz0 hz1 hz2 rfl (by decide) _ _ _ rfl (HO5.out.alloc _) ⟨w5.heap.size, 0, none⟩ 1 1 [.int .i64 4611686018427387903] rfl rfl ?c1 ?c2 ?c3 ?c4 ?c5 ?_)
        try case c1 =>
          intro j u hj
          match j, hj with
          | 0, hj => simp at hj; subst hj; simp [Addr.add]
        case c2 => first | rfl | (intro u hu; simp at hu; subst hu; rfl)
        case c3 => unfold maxLen; omega
        case c4 => omega
        case c5 => simp; omega
        intro v8 w8 hown8 hgrow8 hne8 hat8
        obtain ⟨g8, cp8, rfl, R8⟩ : ∃ g8 cp8, v8 = .slice (some ⟨g8, 0, none⟩) (zs8 ++ [4611686018427387903]).length cp8 ∧ Hid (w8.ownsRow w1.heap.size 3 1 (.slice (some ⟨g8, 0, none⟩) (zs8 ++ [4611686018427387903]).length cp8) (zs8 ++ [4611686018427387903]).length ((zs8 ++ [4611686018427387903]).map (Value.int .i64)) ∧ w1.grownBy w8 (some w.heap.size)) := by
          rcases own_cases hown8 with ⟨h, h'⟩ | ⟨g6, cp6, rfl, _, _⟩
          · exfalso; simp at h'
          have hgr := grown_new (grown_trans HG5.out (World.grownBy_alloc w5 _ _)) hgrow8 (own_block HO5.out)
          refine ⟨g6, cp6, by simp, ?_, hgr⟩
          rw [List.map_append, List.length_append]; exact hown8
        clear hown8 hgrow8 hat8 hne8 HO5 HG5
        go_wp2
        go_ret
        unfold DrawnC
        exact ⟨zs8 ++ [4611686018427387903], g8, cp8, by simp, by simp; omega, own_mono R8.out.1 (by omega), below_src HG1.out R8.out.2⟩
end Go.Proofs.Ytibomnmgiimejad
