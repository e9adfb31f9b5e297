import Derived.Test.YtboocdiilbcdcaaProg
import Derived.Test.YtboocdiilbcdcaaOwn
import Derived.WalkLawsBesides
import Derived.WalkSpells
import Derived.BigQuiet
import Derived.Deep.QuietTactic
import Derived.BigRegion
namespace Go.Proofs.Ytboocdiilbcdcaa
open Go Go.RowKit
set_option linter.unusedVariables false

/-- The source of drawn choices, at its block. -/
def SrcAt (w : World) (b : Nat) (cv : Value) (at' sd : Int) : Prop := w.heap[b]? = some (.cells #[cv, .int .i64 at', .int .i64 sd] 80 (0, 0))
def Code (w : World) (b : Nat) (ao : Option Addr) (n : Nat) : Prop := ∀ j, j < n → ∃ blk off z, ao = some ⟨blk, off, none⟩ ∧ blk ≠ b ∧ 0 ≤ z ∧ z ≤ 255 ∧ w.cell? ⟨blk, off + j, none⟩ = some (.int .u8 z)
theorem SrcAt.cell {w : World} {b : Nat} {cv : Value} {a sd : Int} (h : SrcAt w b cv a sd) : w.cell? ⟨b, 0, none⟩ = some cv ∧ w.cell? ⟨b, 1, none⟩ = some (.int .i64 a) ∧ w.cell? ⟨b, 2, none⟩ = some (.int .i64 sd) := by
  unfold SrcAt at h
  simp [World.cell?, h]
theorem SrcAt.free {w : World} {b : Nat} {cv : Value} {a sd : Int} (h : SrcAt w b cv a sd) (j : Nat) : w.frozen? ⟨b, j, none⟩ = false := frozen_of_row w b j _ _ h
theorem SrcAt.lt {w : World} {b : Nat} {cv : Value} {a sd : Int} (h : SrcAt w b cv a sd) : b < w.heap.size := (Array.getElem?_eq_some_iff.1 h).1
theorem SrcAt.set1 {w : World} {b : Nat} {cv : Value} {a sd : Int} (h : SrcAt w b cv a sd) (a' : Int) : SrcAt (w.setCell ⟨b, 1, none⟩ (.int .i64 a')) b cv a' sd := by
  have := heap_setCell_same w b 1 _ _ (.int .i64 a') h
  simpa [SrcAt] using this
theorem SrcAt.set2 {w : World} {b : Nat} {cv : Value} {a sd : Int} (h : SrcAt w b cv a sd) (s' : Int) : SrcAt (w.setCell ⟨b, 2, none⟩ (.int .i64 s')) b cv a s' := by
  have := heap_setCell_same w b 2 _ _ (.int .i64 s') h
  simpa [SrcAt] using this
theorem grown_set (w : World) (b j : Nat) (u : Value) : w.grownBy (w.setCell ⟨b, j, none⟩ u) (some b) :=
  ⟨rfl, rfl, rfl, by simp, fun k _ hk => heap_setCell_other w ⟨b, j, none⟩ k u (fun e => hk (by simp [e]))⟩
theorem grown_drewN (w : World) (n : Nat) (row : Option Nat) : w.grownBy (w.drewN n) row := ⟨rfl, rfl, rfl, Nat.le_refl _, fun _ _ _ => rfl⟩
theorem Code.kept {w w' : World} {b : Nat} {ao : Option Addr} {n : Nat} (h : Code w b ao n) (hg : w.grownBy w' (some b)) : Code w' b ao n := by
  intro j hj
  obtain ⟨blk, off, z, h1, h2, h3, h4, h5⟩ := h j hj
  exact ⟨blk, off, z, h1, h2, h3, h4, hg.cell h5 (by simpa using h2)⟩

/-- A number from 0 to m was drawn, by at most k bytes. -/
def Drawn (w : World) (b : Nat) (cv : Value) (a k m : Int) (e : Ending) (w' : World) : Prop :=
  ∃ x a' sd' : Int, e = .returned (.int .i64 x) ∧ 0 ≤ x ∧ x ≤ m ∧ a ≤ a' ∧ a' ≤ a + k ∧ 0 ≤ sd' ∧ sd' < 2147483648 ∧ SrcAt w' b cv a' sd' ∧ w.grownBy w' (some b)

set_option maxHeartbeats 2000000 in
set_option maxRecDepth 100000 in
theorem byte_code (b : Nat) (ao : Option Addr) (n cap : Nat) (a sd : Int) (w : World) (hn : n ≤ 1048576) (ha0 : 0 ≤ a) (ha1 : a < n) (hs0 : 0 ≤ sd) (hs1 : sd < 2147483648)
    (hs : SrcAt w b (.slice ao n cap) a sd) (hc : Code w b ao n) :
    Calls Try.prog 52 #[.pointer (some ⟨b, 0, none⟩)] w fun e w' => Drawn w b (.slice ao n cap) a 1 255 e w' := by
  obtain ⟨blk, off, z, rfl, hne, hz0, hz1, hzc⟩ := hc a.toNat (by omega)
  obtain ⟨A, rfl⟩ := Int.eq_ofNat_of_zero_le ha0
  rw [Int.toNat_natCast] at hzc
  obtain ⟨c0, c1, c2⟩ := hs.cell
  have f1 := hs.free 1
  have f2 := hs.free 2
  have HS := hidd hs
  have hle : (A : Int) + 1 ≤ (n : Int) := by omega
  have hidx : (A : Int) + 1 - 1 < (n : Int) := by omega
  have hA : A < n := by omega
  clear hc hs
  go_enter Try.func52, Try.ntmps52
  go_wp2
  go_quiet (fail)
  go_wp2
  have HS2 : Hid (SrcAt ((w.setCell ⟨b, 1, none⟩ (.int .i64 ((A : Int) + 1))).drewN nq) b (.slice (some ⟨blk, off, none⟩) n cap) ((A : Int) + 1) sd) := HS.out.set1 _
  have HG2 : Hid (w.grownBy ((w.setCell ⟨b, 1, none⟩ (.int .i64 ((A : Int) + 1))).drewN nq) (some b)) := grown_trans (grown_set w b 1 _) (grown_drewN _ _ _)
  generalize (w.setCell ⟨b, 1, none⟩ (.int .i64 ((A : Int) + 1))).drewN nq = w2 at *
  have hzc2 : w2.cell? ⟨blk, off + A, none⟩ = some (.int .u8 z) := HG2.out.cell hzc (by simpa using hne)
  have Hzc := hidd hzc
  clear hzc c0 c1 c2 f1 f2
  obtain ⟨d0, d1, d2⟩ := HS2.out.cell
  have e1 := HS2.out.free 1
  have e2 := HS2.out.free 2
  go_region
  have hm0 : 0 ≤ (sd * 31 + z + 7) % 2147483648 := Int.emod_nonneg _ (by omega)
  have hm1 : (sd * 31 + z + 7) % 2147483648 < 2147483648 := Int.emod_lt_of_pos _ (by omega)
  generalize (sd * 31 + z + 7) % 2147483648 = sd' at *
  have HS3 : Hid (SrcAt (w2.setCell ⟨b, 2, none⟩ (.int .i64 sd')).drew b (.slice (some ⟨blk, off, none⟩) n cap) ((A : Int) + 1) sd') := HS2.out.set2 _
  have HG3 : Hid (w.grownBy (w2.setCell ⟨b, 2, none⟩ (.int .i64 sd')).drew (some b)) := grown_trans HG2.out (grown_trans (grown_set w2 b 2 _) (grown_drewN _ 1 _))
  generalize (w2.setCell ⟨b, 2, none⟩ (.int .i64 sd')).drew = w3 at *
  have hzc3 : w3.cell? ⟨blk, off + A, none⟩ = some (.int .u8 z) := HG3.out.cell Hzc.out (by simpa using hne)
  clear d0 d1 d2 e1 e2 hzc2 HS2 HG2 HS
  obtain ⟨d0, d1, d2⟩ := HS3.out.cell
  go_wp2
  go_quiet (fail)
  go_wp2
  go_ret
  unfold Drawn
  exact ⟨z, (A : Int) + 1, sd', rfl, hz0, hz1, by omega, by omega, hm0, hm1, HS3.out, grown_trans HG3.out (grown_drewN _ _ _)⟩

set_option maxHeartbeats 2000000 in
set_option maxRecDepth 100000 in
theorem byte_far (b : Nat) (ao : Option Addr) (n cap : Nat) (a sd : Int) (w : World) (hn : n ≤ 1048576) (ha0 : 0 ≤ a) (ha1 : ¬ a < n) (ha2 : a ≤ 1099511627776) (hs0 : 0 ≤ sd) (hs1 : sd < 2147483648)
    (hs : SrcAt w b (.slice ao n cap) a sd) :
    Calls Try.prog 52 #[.pointer (some ⟨b, 0, none⟩)] w fun e w' => Drawn w b (.slice ao n cap) a 1 255 e w' := by
  obtain ⟨c0, c1, c2⟩ := hs.cell
  have f1 := hs.free 1
  have HS := hidd hs
  have hle : ¬ a + 1 ≤ (n : Int) := by omega
  have hled : decide (a + 1 ≤ (n : Int)) = false := by simp; omega
  clear hs
  go_enter Try.func52, Try.ntmps52
  go_wp2
  go_quiet (fail)
  go_wp2
  have HS2 : Hid (SrcAt ((w.setCell ⟨b, 1, none⟩ (.int .i64 (a + 1))).drewN nq) b (.slice ao n cap) (a + 1) sd) := HS.out.set1 _
  have HG2 : Hid (w.grownBy ((w.setCell ⟨b, 1, none⟩ (.int .i64 (a + 1))).drewN nq) (some b)) := grown_trans (grown_set w b 1 _) (grown_drewN _ _ _)
  generalize (w.setCell ⟨b, 1, none⟩ (.int .i64 (a + 1))).drewN nq = w2 at *
  clear c0 c1 c2 f1
  obtain ⟨d0, d1, d2⟩ := HS2.out.cell
  have e2 := HS2.out.free 2
  by_cases hfar : (4000 : Int) + 4 * (n : Int) < a + 1
  · go_quiet (fail)
    go_wp2
    go_ret
    unfold Drawn
    exact ⟨0, a + 1, sd, rfl, by omega, by omega, by omega, by omega, hs0, hs1, HS2.out, grown_trans HG2.out (grown_drewN _ _ _)⟩
  · have hfd : decide ((4000 : Int) + 4 * (n : Int) < a + 1) = false := by simp; omega
    go_quiet (fail)
    go_wp2
    have hm0 : 0 ≤ (sd * 1103515245 + 12345) % 2147483648 := Int.emod_nonneg _ (by omega)
    have hm1 : (sd * 1103515245 + 12345) % 2147483648 < 2147483648 := Int.emod_lt_of_pos _ (by omega)
    go_ret
    unfold Drawn
    exact ⟨_, a + 1, _, rfl, by omega, by omega, by omega, by omega, hm0, hm1, SrcAt.set2 (w := w2.drewN nq) HS2.out _, grown_trans HG2.out (grown_trans (grown_drewN _ _ _) (grown_set (w2.drewN nq) b 2 _))⟩

theorem byte_any (b : Nat) (ao : Option Addr) (n cap : Nat) (a sd : Int) (w : World) (hn : n ≤ 1048576) (ha0 : 0 ≤ a) (ha2 : a ≤ 1099511627776) (hs0 : 0 ≤ sd) (hs1 : sd < 2147483648)
    (hs : SrcAt w b (.slice ao n cap) a sd) (hc : Code w b ao n) :
    Calls Try.prog 52 #[.pointer (some ⟨b, 0, none⟩)] w fun e w' => Drawn w b (.slice ao n cap) a 1 255 e w' := by
  by_cases h : a < n
  · exact byte_code b ao n cap a sd w hn ha0 h hs0 hs1 hs hc
  · exact byte_far b ao n cap a sd w hn ha0 h ha2 hs0 hs1 hs

set_option maxHeartbeats 2000000 in
theorem next_any (b : Nat) (ao : Option Addr) (n cap : Nat) (a sd m : Int) (w : World) (hn : n ≤ 1048576) (hm : 1 ≤ m) (hm2 : m ≤ 16777216) (ha0 : 0 ≤ a) (ha2 : a ≤ 549755813888) (hs0 : 0 ≤ sd) (hs1 : sd < 2147483648)
    (hs : SrcAt w b (.slice ao n cap) a sd) (hc : Code w b ao n) :
    Calls Try.prog 28 #[.pointer (some ⟨b, 0, none⟩), .int .i64 m] w fun e w' => Drawn w b (.slice ao n cap) a 3 (m - 1) e w' := by
  have HS := hidd hs
  have HC := hidd hc
  clear hs hc
  by_cases h1 : m ≤ 1
  · go_enter Try.func28, Try.ntmps28
    go_wp2
    go_ret
    unfold Drawn
    exact ⟨0, a, sd, rfl, by omega, by omega, by omega, by omega, hs0, hs1, HS.out, grown_refl _ _⟩
  · by_cases h2 : m ≤ 256
    · go_enter Try.func28, Try.ntmps28
      go_wp2_with fail
      refine (byte_any b ao n cap a sd _ hn ha0 (by omega) hs0 hs1 HS.out HC.out).mono ?_
      rintro e w1 ⟨x, a1, sd1, rfl, hx0, hx1, ha3, ha4, hsd0, hsd1, hs1', hg1⟩
      have hr0 := Int.emod_nonneg x (by omega : m ≠ 0)
      have hr1 := Int.emod_lt_of_pos x (by omega : 0 < m)
      have HR := hidd (And.intro hs1' hg1)
      clear hs1' hg1
      go_wp2
      go_ret
      unfold Drawn
      exact ⟨_, a1, sd1, rfl, by omega, by omega, by omega, by omega, hsd0, hsd1, HR.out.1, HR.out.2⟩
    · go_enter Try.func28, Try.ntmps28
      go_wp2_with fail
      refine (byte_any b ao n cap a sd _ hn ha0 (by omega) hs0 hs1 HS.out HC.out).mono ?_
      rintro e w1 ⟨x, a1, sd1, rfl, hx0, hx1, ha3, ha4, hsd0, hsd1, hs1', hg1⟩
      have HR := hidd (And.intro hs1' hg1)
      have HC1 := hidd (HC.out.kept hg1)
      clear hs1' hg1 HC HS
      go_wp2_with fail
      refine (byte_any b ao n cap a1 sd1 _ hn (by omega) (by omega) hsd0 hsd1 HR.out.1 HC1.out).mono ?_
      rintro e w2 ⟨y, a2, sd2, rfl, hy0, hy1, ha5, ha6, hsd2, hsd3, hs2', hg2⟩
      have HR2 := hidd (And.intro hs2' (grown_trans HR.out.2 hg2))
      have HC2 := hidd (HC1.out.kept hg2)
      clear hs2' hg2 HC1 HR
      go_wp2_with fail
      refine (byte_any b ao n cap a2 sd2 _ hn (by omega) (by omega) hsd2 hsd3 HR2.out.1 HC2.out).mono ?_
      rintro e w3 ⟨z, a3, sd3, rfl, hz0, hz1, ha7, ha8, hsd4, hsd5, hs3', hg3⟩
      have HR3 := hidd (And.intro hs3' (grown_trans HR2.out.2 hg3))
      clear hs3' hg3 HC2 HR2
      have hr0 := Int.emod_nonneg (x * 65536 + y * 256 + z) (by omega : m ≠ 0)
      have hr1 := Int.emod_lt_of_pos (x * 65536 + y * 256 + z) (by omega : 0 < m)
      go_wp2
      go_ret
      unfold Drawn
      exact ⟨_, a3, sd3, rfl, by omega, by omega, by omega, by omega, hsd4, hsd5, HR3.out.1, HR3.out.2⟩


end Go.Proofs.Ytboocdiilbcdcaa
