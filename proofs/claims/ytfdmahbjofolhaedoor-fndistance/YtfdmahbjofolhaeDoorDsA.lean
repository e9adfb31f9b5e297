import Derived.Test.YtfdmahbjofolhaeDoorSrcD
namespace Go.Proofs.YtfdmahbjofolhaeDoor
open Go Go.RowKit
set_option linter.unusedVariables false

/-! What spec.DrawEdits draws. -/
set_option maxHeartbeats 2000000 in
set_option maxRecDepth 100000 in
theorem drawText5_any (b : Nat) (ao : Option Addr) (n cap : Nat) (a sd : Int) (w : World) (hn : n ≤ 1048576) (ha0 : 0 ≤ a) (ha2 : a ≤ 274877906944) (hs0 : 0 ≤ sd) (hs1 : sd < 2147483648)
    (hs : SrcAt w b (.slice ao n cap) a sd) (hc : Code w b ao n) :
    Calls Tryd.prog 26 #[.pointer (some ⟨b, 0, none⟩)] w fun e w' => DrawnT w b (.slice ao n cap) a 18 80 e w' := by
  have HS := hidd hs
  have HC := hidd hc
  have hb := hs.lt
  clear hs hc
  go_enter Tryd.func26, Tryd.ntmps26
  go_wp2_with fail
  refine (next_any b ao n cap a sd 6 _ hn (by omega) (by omega) ha0 (by omega) hs0 hs1 HS.out HC.out).mono ?_
  rintro e w1 ⟨y, a1, sd1, rfl, hy0, hy1, ha3, ha4, hsd0, hsd1, hs1', hg1⟩
  obtain ⟨N, rfl⟩ := Int.eq_ofNat_of_zero_le hy0
  have HS1 := hidd hs1'
  have HG1 := hidd hg1
  clear hs1' hg1
  go_wp2
  go_loopw [3, 4] (fun ov kv wr => ∃ (k : Nat) (t : ByteArray) (a2 sd2 : Int), k ≤ N ∧ kv = .int .i64 (k : Int) ∧ ov = .string t ∧ t.size + 16 * k ≤ 16 * N ∧ a ≤ a2 ∧ a2 + 3 * (k : Int) ≤ a + 3 + 3 * (N : Int) ∧ 0 ≤ sd2 ∧ sd2 < 2147483648 ∧ SrcAt wr b (.slice ao n cap) a2 sd2 ∧ w.grownBy wr (some b)) (fun _ kv _ => (intOf kv).toNat)
  case atStart => exact ⟨N, ⟨#[]⟩, a1, sd1, Nat.le_refl _, rfl, rfl, by show 0 + 16 * N ≤ 16 * N; omega, by omega, by omega, hsd0, hsd1, HS1.out, HG1.out⟩
  case round =>
    obtain ⟨k, t, a2, sd2, hkN, rfl, rfl, htk, ha5, ha6, hd0, hd1, hsr, hgr⟩ := hrel
    have HSr := hidd hsr
    have HGr := hidd hgr
    have hbr := hsr.lt
    clear hsr hgr
    by_cases hk : 0 < k
    · have hkz : (0 : Int) < (k : Int) := by omega
      go_wp2_with fail
      refine (next_any b ao n cap a2 sd2 7 _ hn (by omega) (by omega) (by omega) (by omega) hd0 hd1 (by exact HSr.out.alloc _) (by exact (HC.out.kept HGr.out).alloc _)).mono ?_
      rintro e w3 ⟨x, a3, sd3, rfl, hx0, hx1, ha7, ha8, hd4, hd5, hs3, hg3⟩
      obtain ⟨X, rfl⟩ := Int.eq_ofNat_of_zero_le hx0
      obtain ⟨v, hv, hvm⟩ := table_str hg3 hbr 16 (by decide +kernel) X (by show X < 7; omega)
      have HR := hidd (And.intro hs3 (grown_trans HGr.out (grown_trans (World.grownBy_alloc wr _ (some b)) hg3)))
      clear hs3 hg3 HSr HGr
      have hxz : (X : Int) < 7 := by omega
      go_wp2
      go_roundw
      case rel => exact ⟨k - 1, t ++ v, a3, sd3, by omega, by go_num, rfl, by rw [ByteArray.size_append]; omega, by omega, by omega, hd4, hd5, HR.out.1, HR.out.2⟩
      case measure => simp [intOf]; omega
    · have HK : Hid (k = 0) := by show k = 0; omega
      have hkz : ¬ (0 : Int) < (k : Int) := by omega
      go_wp2
      go_ret
      unfold DrawnT
      exact ⟨t, a2, sd2, rfl, by omega, by omega, by omega, hd0, hd1, HSr.out, HGr.out⟩

def Two (w : World) (e : Ending) (w' : World) : Prop := ∃ s t : ByteArray, e = .returned (.tuple #[.string s, .string t]) ∧ s.size ≤ 1048576 ∧ t.size ≤ 1048576 ∧ Below w.heap.size w w'
set_option maxHeartbeats 4000000 in
set_option maxRecDepth 100000 in
theorem drawEdits_any (ao : Option Addr) (n cap : Nat) (w : World) (hn : n ≤ 1048576) (hc : CodeIn w ao n) :
    Calls Tryd.prog 23 #[.slice ao n cap] w fun e w' => Two w e w' := by
  have HC := hidd hc
  clear hc
  go_enter Tryd.func23, Tryd.ntmps23
  go_wp2_with fail
  refine (source_any ao n cap _ hn).mono ?_
  rintro e w1 ⟨rfl, hs1, hg1⟩
  have HG1 := hidd hg1
  have HC1 := hidd (HC.out.code hg1)
  have HS1 := hidd hs1
  have hm0 : 0 ≤ (n : Int) % 1000 := Int.emod_nonneg _ (by omega)
  have hm1 : (n : Int) % 1000 < 2147483648 := by have := Int.emod_lt_of_pos (n : Int) (by omega : (0 : Int) < 1000); omega
  generalize (n : Int) % 1000 = sd0 at *
  clear hs1 hg1
  go_wp2_with fail
  refine (drawText5_any w.heap.size ao n cap 0 sd0 _ hn (by omega) (by omega) hm0 hm1 HS1.out HC1.out).mono ?_
  rintro e w2 ⟨s, a2, sd2, rfl, hss, ha2, ha2', hd2, hd2', hs2, hg2⟩
  have HS2 := hidd hs2
  have HG2 := hidd hg2
  have HC2 := hidd (HC1.out.kept hg2)
  clear hs2 hg2 HS1 HC1
  go_wp2_with fail
  refine (drawText5_any w.heap.size ao n cap a2 sd2 _ hn (by omega) (by omega) hd2 hd2' HS2.out HC2.out).mono ?_
  rintro e w3 ⟨t, a3, sd3, rfl, htt, ha3, ha3', hd3, hd3', hs3, hg3⟩
  have HS3 := hidd hs3
  have HG3 := hidd (grown_trans HG2.out hg3)
  have HC3 := hidd (HC2.out.kept hg3)
  clear hs3 hg3 HS2 HC2 HG2
  go_wp2_with fail
  refine (next_any w.heap.size ao n cap a3 sd3 10 _ hn (by omega) (by omega) (by omega) (by omega) hd3 hd3' HS3.out HC3.out).mono ?_
  rintro e w4 ⟨z, a4, sd4, rfl, hz0, hz1, ha4, ha4', hd4, hd4', hs4, hg4⟩
  have HS4 := hidd hs4
  have HG4 := hidd (grown_trans HG3.out hg4)
  have HC4 := hidd (HC3.out.kept hg4)
  clear hs4 hg4 HS3 HC3 HG3
  have HB4 := hidd (below_src HG1.out HG4.out)
  by_cases h0 : z = 0
  · subst h0
    go_wp2_with fail
    refine (spoil_any w.heap.size ao n cap a4 sd4 s _ hn (by omega) (by omega) (by omega) hd4 hd4' HS4.out HC4.out).mono ?_
    rintro e w5 ⟨u, a5, sd5, rfl, hus, ha5, ha5', hd5, hd5', hs5, hg5⟩
    have HB5 := hidd (below_src HG1.out (grown_trans HG4.out hg5))
    clear hs5 hg5
    go_wp2
    go_ret2
    exact ⟨s, u, rfl, by omega, by omega, HB5.out⟩
  have b0 : (z == 0) = false := beq_false_of_ne h0
  by_cases h1 : z = 1
  · subst h1
    go_wp2_with fail
    refine (next_any w.heap.size ao n cap a4 sd4 2 _ hn (by omega) (by omega) (by omega) (by omega) hd4 hd4' HS4.out HC4.out).mono ?_
    rintro e w5 ⟨y, a5, sd5, rfl, hy0, hy1, ha5, ha5', hd5, hd5', hs5, hg5⟩
    obtain ⟨Y, rfl⟩ := Int.eq_ofNat_of_zero_le hy0
    have HB5 := hidd (below_src HG1.out (grown_trans HG4.out hg5))
    clear hs5 hg5
    have Hrp := hidd (repeat_any ⟨#[101]⟩ (200 + Y) w5 (by decide) (by omega))
    rw [show ((200 + Y : Nat) : Int) = 200 + (Y : Int) from by omega] at Hrp
    have hY : Y ≤ 1 := by omega
    go_wp2_with fail
    refine Hrp.out.mono ?_
    rintro e w6 ⟨r, rfl, hr, hb6⟩
    have hr2 : r.size ≤ 1 * (200 + Y) := hr
    have HB6 := hidd (HB5.out.trans (hb6.mono HB5.out.size))
    clear hb6 hr Hrp
    go_wp2
    go_ret2
    exact ⟨r, t, rfl, by omega, by omega, HB6.out⟩
  have b1 : (z == 1) = false := beq_false_of_ne h1
  by_cases h2 : z = 2
  · subst h2
    go_wp2_with fail
    refine (spoil_any w.heap.size ao n cap a4 sd4 ⟨#[195, 169]⟩ _ hn (by decide) (by omega) (by omega) hd4 hd4' HS4.out HC4.out).mono ?_
    rintro e w5 ⟨u, a5, sd5, rfl, hus, ha5, ha5', hd5, hd5', hs5, hg5⟩
    have hus2 : u.size ≤ 3 := hus
    have HS5 := hidd hs5
    have HG5 := hidd (grown_trans HG4.out hg5)
    have HC5 := hidd (HC4.out.kept hg5)
    clear hs5 hg5 hus HS4 HC4 HG4 HB4
    go_wp2_with fail
    refine (chance_any w.heap.size ao n cap a5 sd5 3 _ hn (by omega) (by omega) (by omega) (by omega) hd5 hd5' HS5.out HC5.out).mono ?_
    rintro e w6 ⟨x, a6, sd6, rfl, ha6, ha6', hd6, hd6', hs6, hg6⟩
    have HS6 := hidd hs6
    have HG6 := hidd (grown_trans HG5.out hg6)
    have HC6 := hidd (HC5.out.kept hg6)
    have HB6 := hidd (below_src HG1.out HG6.out)
    clear hs6 hg6 HS5 HC5 HG5
    cases x with
    | false =>
      go_wp2
      go_ret2
      exact ⟨u, t, rfl, by omega, by omega, HB6.out⟩
    | true =>
      go_wp2_with fail
      refine (next_any w.heap.size ao n cap a6 sd6 2 _ hn (by omega) (by omega) (by omega) (by omega) hd6 hd6' HS6.out HC6.out).mono ?_
      rintro e w7 ⟨y, a7, sd7, rfl, hy0, hy1, ha7, ha7', hd7, hd7', hs7, hg7⟩
      obtain ⟨Y, rfl⟩ := Int.eq_ofNat_of_zero_le hy0
      have HB7 := hidd (below_src HG1.out (grown_trans HG6.out hg7))
      clear hs7 hg7
      have Hrp := hidd (repeat_any ⟨#[101]⟩ (65536 + Y) w7 (by decide) (by omega))
      rw [show ((65536 + Y : Nat) : Int) = 65536 + (Y : Int) from by omega] at Hrp
      have hY : Y ≤ 1 := by omega
      go_wp2_with fail
      refine Hrp.out.mono ?_
      rintro e w8 ⟨r, rfl, hr, hb8⟩
      have hr2 : r.size ≤ 1 * (65536 + Y) := hr
      have HB8 := hidd (HB7.out.trans (hb8.mono HB7.out.size))
      clear hb8 hr Hrp
      go_wp2
      go_ret2
      exact ⟨u, r, rfl, by omega, by omega, HB8.out⟩
  have b2 : (z == 2) = false := beq_false_of_ne h2
  go_wp2
  go_ret2
  exact ⟨s, t, rfl, by omega, by omega, HB4.out⟩
end Go.Proofs.YtfdmahbjofolhaeDoor
