import Derived.Lib.RuneBytes
import Derived.Lib.Small
import Derived.WalkKit
import Derived.Lib.OthersKept
import Derived.Deep.Draws
import Derived.Test.YtpdiaddgialanaaGreatDoorProg
import Derived.WalkLawsBesides
import Derived.WalkSpells
import Derived.BigQuiet
import Derived.Deep.QuietTactic
import Derived.BigRegion
namespace Go.Proofs.YtpdiaddgialanaaGreatDoor
open Go

end Go.Proofs.YtpdiaddgialanaaGreatDoor

namespace Go.Proofs.YtpdiaddgialanaaGreatDoor
open Go Go.RowKit
theorem hidd {p : Prop} (h : p) : Hid p := h
theorem add_head (g j : Nat) : (⟨g, 0, none⟩ : Addr).add j = ⟨g, j, none⟩ := by
  unfold Addr.add
  by_cases h : j = 0
  · subst h; simp
  · simp [h]
theorem own_lt {w : World} {base e g n cap : Nat} {xs : List Value} (h : w.ownsRow base e 1 (.slice (some ⟨g, 0, none⟩) n cap) n xs) : g < w.heap.size := by
  rcases h.2 with ⟨h', _⟩ | ⟨g', cap', cur, h', _, hg, _⟩
  · simp at h'
  · simp only [Value.slice.injEq, Option.some.injEq, Addr.mk.injEq, and_true, true_and] at h'
    obtain ⟨rfl, rfl⟩ := h'
    exact (Array.getElem?_eq_some_iff.1 hg).1
theorem cell_lt {w : World} {b off : Nat} {v : Value} (h : w.cell? ⟨b, off, none⟩ = some v) : b < w.heap.size := by
  by_cases hb : b < w.heap.size
  · exact hb
  · have : w.heap[b]? = none := Array.getElem?_eq_none (by omega)
    simp [World.cell?, this] at h
theorem own_below {w w' : World} {base e n : Nat} {v : Value} {xs : List Value} (h : w.ownsRow base e 1 v n xs) (hb : Below w.heap.size w w') : w'.ownsRow base e 1 v n xs := by
  refine ⟨h.1, ?_⟩
  rcases h.2 with h' | ⟨g, cap, cur, h1, h2, h3, h4⟩
  · exact Or.inl h'
  · exact Or.inr ⟨g, cap, cur, h1, h2, by rw [hb.block g (Array.getElem?_eq_some_iff.1 h3).1]; exact h3, h4⟩
end Go.Proofs.YtpdiaddgialanaaGreatDoor

namespace Go.Proofs.YtpdiaddgialanaaGreatDoor
open Go Go.RowKit
set_option linter.unusedVariables false

theorem own_cases {w : World} {base e n : Nat} {v : Value} {xs : List Value} (h : w.ownsRow base e 1 v n xs) :
    (v = .slice none 0 0 ∧ n = 0) ∨ ∃ g cap, v = .slice (some ⟨g, 0, none⟩) n cap ∧ base ≤ g ∧ g < w.heap.size := by
  rcases h.2 with ⟨h1, h2⟩ | ⟨g, cap, cur, h1, hb, hg, _⟩
  · exact Or.inl ⟨h1, h2⟩
  · exact Or.inr ⟨g, cap, h1, hb, (Array.getElem?_eq_some_iff.1 hg).1⟩
theorem grown_refl (w : World) (row : Option Nat) : w.grownBy w row := ⟨rfl, rfl, rfl, Nat.le_refl _, fun _ _ _ => rfl⟩
theorem grown_trans {a b c : World} {row : Option Nat} (h : a.grownBy b row) (k : b.grownBy c row) : a.grownBy c row :=
  ⟨k.os.trans h.os, k.tape.trans h.tape, k.output.trans h.output, Nat.le_trans h.size k.size, fun i hi hne => (k.block i (Nat.lt_of_lt_of_le hi h.size) hne).trans (h.block i hi hne)⟩
theorem own_empty (w : World) (e : TypeId) : (w.alloc (.cells #[] e)).ownsRow w.heap.size e 1 (.slice (some ⟨w.heap.size, 0, none⟩) 0 0) 0 [] := by
  have := World.ownsRow_lit (base := w.heap.size) (e := e) (size := 1) w #[] 0 (Nat.le_refl _) (by unfold maxLen; omega) (by simp)
  simpa using this
theorem own_mono {w : World} {base base' e n : Nat} {v : Value} {xs : List Value} (h : w.ownsRow base e 1 v n xs) (hb : base' ≤ base) : w.ownsRow base' e 1 v n xs := by
  refine ⟨h.1, ?_⟩
  rcases h.2 with h' | ⟨g, cap, cur, h1, h2, h3⟩
  · exact Or.inl h'
  · exact Or.inr ⟨g, cap, cur, h1, Nat.le_trans hb h2, h3⟩
theorem own_block {w : World} {base e n : Nat} {v : Value} {xs : List Value} (h : w.ownsRow base e 1 v n xs) : ∀ k, v.ownBlock = some k → base ≤ k := by
  intro k hk
  rcases own_cases h with ⟨rfl, _⟩ | ⟨g, cap, rfl, hb, _⟩
  · cases hk
  · cases hk; exact hb
end Go.Proofs.YtpdiaddgialanaaGreatDoor

namespace Go.Proofs.YtpdiaddgialanaaGreatDoor
open Go Go.RowKit
set_option linter.unusedVariables false

/-- The source of drawn choices, at its block. -/
def SrcAt (w : World) (b : Nat) (cv : Value) (at' sd : Int) : Prop := w.heap[b]? = some (.cells #[cv, .int .i64 at', .int .i64 sd] 79 (0, 0))
def Code (w : World) (b : Nat) (ao : Option Addr) (n : Nat) : Prop := ∀ j, j < n → ∃ blk off z, ao = some ⟨blk, off, none⟩ ∧ blk ≠ b ∧ 0 ≤ z ∧ z ≤ 255 ∧ w.cell? ⟨blk, off + j, none⟩ = some (.int .u8 z)
theorem SrcAt.cell {w : World} {b : Nat} {cv : Value} {a sd : Int} (h : SrcAt w b cv a sd) : w.cell? ⟨b, 0, none⟩ = some cv ∧ w.cell? ⟨b, 1, none⟩ = some (.int .i64 a) ∧ w.cell? ⟨b, 2, none⟩ = some (.int .i64 sd) := by
  unfold SrcAt at h
  simp [World.cell?, h]
theorem SrcAt.free {w : World} {b : Nat} {cv : Value} {a sd : Int} (h : SrcAt w b cv a sd) (j : Nat) : w.frozen? ⟨b, j, none⟩ = false := frozen_of_row w b j _ _ h
theorem SrcAt.lt {w : World} {b : Nat} {cv : Value} {a sd : Int} (h : SrcAt w b cv a sd) : b < w.heap.size := (Array.getElem?_eq_some_iff.1 h).1
theorem SrcAt.set1 {w : World} {b : Nat} {cv : Value} {a sd : Int} (h : SrcAt w b cv a sd) (a' : Int) : SrcAt (w.setCell ⟨b, 1, none⟩ (.int .i64 a')) b cv a' sd := by
  have := heap_setCell_same w b 1 _ _ (.int .i64 a') h
  simpa [SrcAt] using this
theorem SrcAt.set2 {w : World} {b : Nat} {cv : Value} {a sd : Int} (h : SrcAt w b cv a sd) (s' : Int) : SrcAt (w.setCell ⟨b, 2, none⟩ (.int .i64 s')) b cv a s' := by
  have := heap_setCell_same w b 2 _ _ (.int .i64 s') h
  simpa [SrcAt] using this
theorem grown_set (w : World) (b j : Nat) (u : Value) : w.grownBy (w.setCell ⟨b, j, none⟩ u) (some b) :=
  ⟨rfl, rfl, rfl, by simp, fun k _ hk => heap_setCell_other w ⟨b, j, none⟩ k u (fun e => hk (by simp [e]))⟩
theorem grown_drewN (w : World) (n : Nat) (row : Option Nat) : w.grownBy (w.drewN n) row := ⟨rfl, rfl, rfl, Nat.le_refl _, fun _ _ _ => rfl⟩
theorem Code.kept {w w' : World} {b : Nat} {ao : Option Addr} {n : Nat} (h : Code w b ao n) (hg : w.grownBy w' (some b)) : Code w' b ao n := by
  intro j hj
  obtain ⟨blk, off, z, h1, h2, h3, h4, h5⟩ := h j hj
  exact ⟨blk, off, z, h1, h2, h3, h4, hg.cell h5 (by simpa using h2)⟩
/-- A number from 0 to m was drawn, by at most k bytes. -/
def Drawn (w : World) (b : Nat) (cv : Value) (a k m : Int) (e : Ending) (w' : World) : Prop :=
  ∃ x a' sd' : Int, e = .returned (.int .i64 x) ∧ 0 ≤ x ∧ x ≤ m ∧ a ≤ a' ∧ a' ≤ a + k ∧ 0 ≤ sd' ∧ sd' < 2147483648 ∧ SrcAt w' b cv a' sd' ∧ w.grownBy w' (some b)
set_option maxHeartbeats 2000000 in
set_option maxRecDepth 100000 in
theorem byte_code (b : Nat) (ao : Option Addr) (n cap : Nat) (a sd : Int) (w : World) (hn : n ≤ 1048576) (ha0 : 0 ≤ a) (ha1 : a < n) (hs0 : 0 ≤ sd) (hs1 : sd < 2147483648)
    (hs : SrcAt w b (.slice ao n cap) a sd) (hc : Code w b ao n) :
    Calls Tryz.prog 33 #[.pointer (some ⟨b, 0, none⟩)] w fun e w' => Drawn w b (.slice ao n cap) a 1 255 e w' := by
  obtain ⟨blk, off, z, rfl, hne, hz0, hz1, hzc⟩ := hc a.toNat (by omega)
  obtain ⟨A, rfl⟩ := Int.eq_ofNat_of_zero_le ha0
  rw [Int.toNat_natCast] at hzc
  obtain ⟨c0, c1, c2⟩ := hs.cell
  have f1 := hs.free 1
  have f2 := hs.free 2
  have HS := hidd hs
  have hle : (A : Int) + 1 ≤ (n : Int) := by omega
  have hidx : (A : Int) + 1 - 1 < (n : Int) := by omega
  have hA : A < n := by omega
  clear hc hs
  go_enter Tryz.func33, Tryz.ntmps33
  go_wp2
  go_quiet (fail)
  go_wp2
  have HS2 : Hid (SrcAt ((w.setCell ⟨b, 1, none⟩ (.int .i64 ((A : Int) + 1))).drewN nq) b (.slice (some ⟨blk, off, none⟩) n cap) ((A : Int) + 1) sd) := HS.out.set1 _
  have HG2 : Hid (w.grownBy ((w.setCell ⟨b, 1, none⟩ (.int .i64 ((A : Int) + 1))).drewN nq) (some b)) := grown_trans (grown_set w b 1 _) (grown_drewN _ _ _)
  generalize (w.setCell ⟨b, 1, none⟩ (.int .i64 ((A : Int) + 1))).drewN nq = w2 at *
  have hzc2 : w2.cell? ⟨blk, off + A, none⟩ = some (.int .u8 z) := HG2.out.cell hzc (by simpa using hne)
  have Hzc := hidd hzc
  clear hzc c0 c1 c2 f1 f2
  obtain ⟨d0, d1, d2⟩ := HS2.out.cell
  have e1 := HS2.out.free 1
  have e2 := HS2.out.free 2
  go_region
  have hm0 : 0 ≤ (sd * 31 + z + 7) % 2147483648 := Int.emod_nonneg _ (by omega)
  have hm1 : (sd * 31 + z + 7) % 2147483648 < 2147483648 := Int.emod_lt_of_pos _ (by omega)
  generalize (sd * 31 + z + 7) % 2147483648 = sd' at *
  have HS3 : Hid (SrcAt (w2.setCell ⟨b, 2, none⟩ (.int .i64 sd')).drew b (.slice (some ⟨blk, off, none⟩) n cap) ((A : Int) + 1) sd') := HS2.out.set2 _
  have HG3 : Hid (w.grownBy (w2.setCell ⟨b, 2, none⟩ (.int .i64 sd')).drew (some b)) := grown_trans HG2.out (grown_trans (grown_set w2 b 2 _) (grown_drewN _ 1 _))
  generalize (w2.setCell ⟨b, 2, none⟩ (.int .i64 sd')).drew = w3 at *
  have hzc3 : w3.cell? ⟨blk, off + A, none⟩ = some (.int .u8 z) := HG3.out.cell Hzc.out (by simpa using hne)
  clear d0 d1 d2 e1 e2 hzc2 HS2 HG2 HS
  obtain ⟨d0, d1, d2⟩ := HS3.out.cell
  go_wp2
  go_quiet (fail)
  go_wp2
  go_ret
  unfold Drawn
  exact ⟨z, (A : Int) + 1, sd', rfl, hz0, hz1, by omega, by omega, hm0, hm1, HS3.out, grown_trans HG3.out (grown_drewN _ _ _)⟩
set_option maxHeartbeats 2000000 in
set_option maxRecDepth 100000 in
theorem byte_far (b : Nat) (ao : Option Addr) (n cap : Nat) (a sd : Int) (w : World) (hn : n ≤ 1048576) (ha0 : 0 ≤ a) (ha1 : ¬ a < n) (ha2 : a ≤ 1099511627776) (hs0 : 0 ≤ sd) (hs1 : sd < 2147483648)
    (hs : SrcAt w b (.slice ao n cap) a sd) :
    Calls Tryz.prog 33 #[.pointer (some ⟨b, 0, none⟩)] w fun e w' => Drawn w b (.slice ao n cap) a 1 255 e w' := by
  obtain ⟨c0, c1, c2⟩ := hs.cell
  have f1 := hs.free 1
  have HS := hidd hs
  have hle : ¬ a + 1 ≤ (n : Int) := by omega
  have hled : decide (a + 1 ≤ (n : Int)) = false := by simp; omega
  clear hs
  go_enter Tryz.func33, Tryz.ntmps33
  go_wp2
  go_quiet (fail)
  go_wp2
  have HS2 : Hid (SrcAt ((w.setCell ⟨b, 1, none⟩ (.int .i64 (a + 1))).drewN nq) b (.slice ao n cap) (a + 1) sd) := HS.out.set1 _
  have HG2 : Hid (w.grownBy ((w.setCell ⟨b, 1, none⟩ (.int .i64 (a + 1))).drewN nq) (some b)) := grown_trans (grown_set w b 1 _) (grown_drewN _ _ _)
  generalize (w.setCell ⟨b, 1, none⟩ (.int .i64 (a + 1))).drewN nq = w2 at *
  clear c0 c1 c2 f1
  obtain ⟨d0, d1, d2⟩ := HS2.out.cell
  have e2 := HS2.out.free 2
  by_cases hfar : (4000 : Int) + 4 * (n : Int) < a + 1
  · go_quiet (fail)
    go_wp2
    go_ret
    unfold Drawn
    exact ⟨0, a + 1, sd, rfl, by omega, by omega, by omega, by omega, hs0, hs1, HS2.out, grown_trans HG2.out (grown_drewN _ _ _)⟩
  · have hfd : decide ((4000 : Int) + 4 * (n : Int) < a + 1) = false := by simp; omega
    go_quiet (fail)
    go_wp2
    have hm0 : 0 ≤ (sd * 1103515245 + 12345) % 2147483648 := Int.emod_nonneg _ (by omega)
    have hm1 : (sd * 1103515245 + 12345) % 2147483648 < 2147483648 := Int.emod_lt_of_pos _ (by omega)
    go_ret
    unfold Drawn
    exact ⟨_, a + 1, _, rfl, by omega, by omega, by omega, by omega, hm0, hm1, SrcAt.set2 (w := w2.drewN nq) HS2.out _, grown_trans HG2.out (grown_trans (grown_drewN _ _ _) (grown_set (w2.drewN nq) b 2 _))⟩
theorem byte_any (b : Nat) (ao : Option Addr) (n cap : Nat) (a sd : Int) (w : World) (hn : n ≤ 1048576) (ha0 : 0 ≤ a) (ha2 : a ≤ 1099511627776) (hs0 : 0 ≤ sd) (hs1 : sd < 2147483648)
    (hs : SrcAt w b (.slice ao n cap) a sd) (hc : Code w b ao n) :
    Calls Tryz.prog 33 #[.pointer (some ⟨b, 0, none⟩)] w fun e w' => Drawn w b (.slice ao n cap) a 1 255 e w' := by
  by_cases h : a < n
  · exact byte_code b ao n cap a sd w hn ha0 h hs0 hs1 hs hc
  · exact byte_far b ao n cap a sd w hn ha0 h ha2 hs0 hs1 hs
set_option maxHeartbeats 2000000 in
theorem next_any (b : Nat) (ao : Option Addr) (n cap : Nat) (a sd m : Int) (w : World) (hn : n ≤ 1048576) (hm : 1 ≤ m) (hm2 : m ≤ 16777216) (ha0 : 0 ≤ a) (ha2 : a ≤ 549755813888) (hs0 : 0 ≤ sd) (hs1 : sd < 2147483648)
    (hs : SrcAt w b (.slice ao n cap) a sd) (hc : Code w b ao n) :
    Calls Tryz.prog 14 #[.pointer (some ⟨b, 0, none⟩), .int .i64 m] w fun e w' => Drawn w b (.slice ao n cap) a 3 (m - 1) e w' := by
  have HS := hidd hs
  have HC := hidd hc
  clear hs hc
  by_cases h1 : m ≤ 1
  · go_enter Tryz.func14, Tryz.ntmps14
    go_wp2
    go_ret
    unfold Drawn
    exact ⟨0, a, sd, rfl, by omega, by omega, by omega, by omega, hs0, hs1, HS.out, grown_refl _ _⟩
  · by_cases h2 : m ≤ 256
    · go_enter Tryz.func14, Tryz.ntmps14
      go_wp2_with fail
      refine (byte_any b ao n cap a sd _ hn ha0 (by omega) hs0 hs1 HS.out HC.out).mono ?_
      rintro e w1 ⟨x, a1, sd1, rfl, hx0, hx1, ha3, ha4, hsd0, hsd1, hs1', hg1⟩
      have hr0 := Int.emod_nonneg x (by omega : m ≠ 0)
      have hr1 := Int.emod_lt_of_pos x (by omega : 0 < m)
      have HR := hidd (And.intro hs1' hg1)
      clear hs1' hg1
      go_wp2
      go_ret
      unfold Drawn
      exact ⟨_, a1, sd1, rfl, by omega, by omega, by omega, by omega, hsd0, hsd1, HR.out.1, HR.out.2⟩
    · go_enter Tryz.func14, Tryz.ntmps14
      go_wp2_with fail
      refine (byte_any b ao n cap a sd _ hn ha0 (by omega) hs0 hs1 HS.out HC.out).mono ?_
      rintro e w1 ⟨x, a1, sd1, rfl, hx0, hx1, ha3, ha4, hsd0, hsd1, hs1', hg1⟩
      have HR := hidd (And.intro hs1' hg1)
      have HC1 := hidd (HC.out.kept hg1)
      clear hs1' hg1 HC HS
      go_wp2_with fail
      refine (byte_any b ao n cap a1 sd1 _ hn (by omega) (by omega) hsd0 hsd1 HR.out.1 HC1.out).mono ?_
      rintro e w2 ⟨y, a2, sd2, rfl, hy0, hy1, ha5, ha6, hsd2, hsd3, hs2', hg2⟩
      have HR2 := hidd (And.intro hs2' (grown_trans HR.out.2 hg2))
      have HC2 := hidd (HC1.out.kept hg2)
      clear hs2' hg2 HC1 HR
      go_wp2_with fail
      refine (byte_any b ao n cap a2 sd2 _ hn (by omega) (by omega) hsd2 hsd3 HR2.out.1 HC2.out).mono ?_
      rintro e w3 ⟨z, a3, sd3, rfl, hz0, hz1, ha7, ha8, hsd4, hsd5, hs3', hg3⟩
      have HR3 := hidd (And.intro hs3' (grown_trans HR2.out.2 hg3))
      clear hs3' hg3 HC2 HR2
      have hr0 := Int.emod_nonneg (x * 65536 + y * 256 + z) (by omega : m ≠ 0)
      have hr1 := Int.emod_lt_of_pos (x * 65536 + y * 256 + z) (by omega : 0 < m)
      go_wp2
      go_ret
      unfold Drawn
      exact ⟨_, a3, sd3, rfl, by omega, by omega, by omega, by omega, hsd4, hsd5, HR3.out.1, HR3.out.2⟩
/-- Yes or no. -/
def DrawnB (w : World) (b : Nat) (cv : Value) (a k : Int) (e : Ending) (w' : World) : Prop :=
  ∃ (x : Bool) (a' sd' : Int), e = .returned (.bool x) ∧ a ≤ a' ∧ a' ≤ a + k ∧ 0 ≤ sd' ∧ sd' < 2147483648 ∧ SrcAt w' b cv a' sd' ∧ w.grownBy w' (some b)
set_option maxHeartbeats 1000000 in
theorem chance_any (b : Nat) (ao : Option Addr) (n cap : Nat) (a sd m : Int) (w : World) (hn : n ≤ 1048576) (hm : 1 ≤ m) (hm2 : m ≤ 16777216) (ha0 : 0 ≤ a) (ha2 : a ≤ 549755813888) (hs0 : 0 ≤ sd) (hs1 : sd < 2147483648)
    (hs : SrcAt w b (.slice ao n cap) a sd) (hc : Code w b ao n) :
    Calls Tryz.prog 29 #[.pointer (some ⟨b, 0, none⟩), .int .i64 m] w fun e w' => DrawnB w b (.slice ao n cap) a 3 e w' := by
  have HS := hidd hs
  have HC := hidd hc
  clear hs hc
  go_enter Tryz.func29, Tryz.ntmps29
  go_wp2_with fail
  refine (next_any b ao n cap a sd m _ hn hm hm2 ha0 ha2 hs0 hs1 HS.out HC.out).mono ?_
  rintro e w1 ⟨x, a1, sd1, rfl, hx0, hx1, ha3, ha4, hsd0, hsd1, hs1', hg1⟩
  have HR := hidd (And.intro hs1' hg1)
  clear hs1' hg1
  go_wp2
  go_ret
  unfold DrawnB
  exact ⟨_, a1, sd1, rfl, by omega, by omega, hsd0, hsd1, HR.out.1, HR.out.2⟩
end Go.Proofs.YtpdiaddgialanaaGreatDoor

namespace Go.Proofs.YtpdiaddgialanaaGreatDoor
open Go Go.RowKit
set_option linter.unusedVariables false

def strB (m : Nat) : Value → Bool
  | .string s => decide (s.size ≤ m)
  | _ => false
theorem strB_ok {m : Nat} {v : Value} (h : strB m v = true) : ∃ t, v = .string t ∧ t.size ≤ m := by
  cases v with
  | string s => exact ⟨s, rfl, by simpa [strB] using h⟩
  | _ => cases h
theorem table_str {w w1 : World} {C : Array Value} {t : TypeId} {b : Nat} (hg : (w.alloc (.cells C t)).grownBy w1 (some b)) (hb : b < w.heap.size) (m : Nat) (hC : C.all (strB m) = true) (j : Nat) (hj : j < C.size) :
    ∃ t, w1.cell? ⟨w.heap.size, j, none⟩ = some (.string t) ∧ t.size ≤ m := by
  have h1 : (w.alloc (.cells C t)).cell? ⟨w.heap.size, j, none⟩ = some C[j] := by
    rw [World.cell?_alloc_at (hn := rfl)]
    exact Array.getElem?_eq_getElem hj
  have h2 := hg.cell h1 (by simp; omega)
  rw [Array.all_eq_true] at hC
  obtain ⟨s, hs, hm⟩ := strB_ok (hC j hj)
  rw [hs] at h2
  exact ⟨s, h2, hm⟩
/-- A text of at most m bytes was drawn, by at most k bytes of the source. -/
def DrawnT (w : World) (b : Nat) (cv : Value) (a k : Int) (m : Nat) (e : Ending) (w' : World) : Prop :=
  ∃ (t : ByteArray) (a' sd' : Int), e = .returned (.string t) ∧ t.size ≤ m ∧ a ≤ a' ∧ a' ≤ a + k ∧ 0 ≤ sd' ∧ sd' < 2147483648 ∧ SrcAt w' b cv a' sd' ∧ w.grownBy w' (some b)
theorem SrcAt.alloc {w : World} {b : Nat} {cv : Value} {a sd : Int} (h : SrcAt w b cv a sd) (o : Obj) : SrcAt (w.alloc o) b cv a sd := by
  unfold SrcAt at *
  rw [Below.heap_alloc w o b (Array.getElem?_eq_some_iff.1 h).1]
  exact h
theorem Code.alloc {w : World} {b : Nat} {ao : Option Addr} {n : Nat} (h : Code w b ao n) (o : Obj) : Code (w.alloc o) b ao n := h.kept (World.grownBy_alloc w o (some b))
set_option maxHeartbeats 1000000 in
set_option maxRecDepth 100000 in
theorem word_any (b : Nat) (ao : Option Addr) (n cap : Nat) (a sd : Int) (w : World) (hn : n ≤ 1048576) (ha0 : 0 ≤ a) (ha2 : a ≤ 549755813888) (hs0 : 0 ≤ sd) (hs1 : sd < 2147483648)
    (hs : SrcAt w b (.slice ao n cap) a sd) (hc : Code w b ao n) :
    Calls Tryz.prog 78 #[.pointer (some ⟨b, 0, none⟩)] w fun e w' => DrawnT w b (.slice ao n cap) a 3 16 e w' := by
  have HS := hidd hs
  have HC := hidd hc
  have hb := hs.lt
  clear hs hc
  go_enter Tryz.func78, Tryz.ntmps78
  go_wp2_with fail
  refine (next_any b ao n cap a sd 25 _ hn (by omega) (by omega) ha0 ha2 hs0 hs1 (by exact HS.out.alloc _) (by exact HC.out.alloc _)).mono ?_
  rintro e w1 ⟨x, a1, sd1, rfl, hx0, hx1, ha3, ha4, hsd0, hsd1, hs1', hg1⟩
  obtain ⟨X, rfl⟩ := Int.eq_ofNat_of_zero_le hx0
  obtain ⟨t, ht, htm⟩ := table_str hg1 hb 16 (by decide +kernel) X (by show X < 25; omega)
  have HR := hidd (And.intro hs1' (grown_trans (World.grownBy_alloc w _ (some b)) hg1))
  clear hs1' hg1
  have hxz : (X : Int) < 25 := by omega
  go_wp2
  go_ret
  unfold DrawnT
  exact ⟨t, a1, sd1, rfl, htm, by omega, by omega, hsd0, hsd1, HR.out.1, HR.out.2⟩
set_option maxHeartbeats 2000000 in
set_option maxRecDepth 100000 in
theorem prose_any (b : Nat) (ao : Option Addr) (n cap : Nat) (a sd : Int) (N : Nat) (w : World) (hn : n ≤ 1048576) (hN : N ≤ 1000) (ha0 : 0 ≤ a) (ha2 : a ≤ 274877906944) (hs0 : 0 ≤ sd) (hs1 : sd < 2147483648)
    (hs : SrcAt w b (.slice ao n cap) a sd) (hc : Code w b ao n) :
    Calls Tryz.prog 59 #[.pointer (some ⟨b, 0, none⟩), .int .i64 (N : Int)] w fun e w' => DrawnT w b (.slice ao n cap) a (6 * (N : Int)) (32 * N) e w' := by
  have HS := hidd hs
  have HC := hidd hc
  have hb := hs.lt
  clear hs hc
  go_enter Tryz.func59, Tryz.ntmps59
  go_wp2
  go_loopw [1, 5] (fun kv ov wr => ∃ (k : Nat) (t : ByteArray) (a1 sd1 : Int), k ≤ N ∧ kv = .int .i64 (k : Int) ∧ ov = .string t ∧ t.size + 32 * k ≤ 32 * N ∧ a ≤ a1 ∧ a1 + 6 * (k : Int) ≤ a + 6 * (N : Int) ∧ 0 ≤ sd1 ∧ sd1 < 2147483648 ∧ SrcAt wr b (.slice ao n cap) a1 sd1 ∧ w.grownBy wr (some b)) (fun kv _ _ => (intOf kv).toNat)
  case atStart => exact ⟨N, ⟨#[]⟩, a, sd, Nat.le_refl _, rfl, rfl, by show 0 + 32 * N ≤ 32 * N; omega, by omega, by omega, hs0, hs1, HS.out, grown_refl _ _⟩
  case round =>
    obtain ⟨k, t, a1, sd1, hkN, rfl, rfl, htk, ha3, ha4, hd0, hd1, hsr, hgr⟩ := hrel
    have HSr := hidd hsr
    have HGr := hidd hgr
    have hbr := hsr.lt
    clear hsr hgr
    by_cases hk : 0 < k
    · have hkz : (0 : Int) < (k : Int) := by omega
      go_wp2_with fail
      refine (word_any b ao n cap a1 sd1 _ hn (by omega) (by omega) hd0 hd1 HSr.out (HC.out.kept HGr.out)).mono ?_
      rintro e w1 ⟨u, a2, sd2, rfl, hum, ha5, ha6, hd2, hd3, hs2, hg2⟩
      have HS2 := hidd hs2
      have HG2 := hidd (grown_trans HGr.out hg2)
      have hb2 := hs2.lt
      clear hs2 hg2 HSr HGr
      go_wp2_with fail
      refine (next_any b ao n cap a2 sd2 10 _ hn (by omega) (by omega) (by omega) (by omega) hd2 hd3 (by exact HS2.out.alloc _) (by exact (HC.out.kept HG2.out).alloc _)).mono ?_
      rintro e w3 ⟨x, a3, sd3, rfl, hx0, hx1, ha7, ha8, hd4, hd5, hs3, hg3⟩
      obtain ⟨X, rfl⟩ := Int.eq_ofNat_of_zero_le hx0
      obtain ⟨v, hv, hvm⟩ := table_str hg3 hb2 16 (by decide +kernel) X (by show X < 10; omega)
      have HR := hidd (And.intro hs3 (grown_trans HG2.out (grown_trans (World.grownBy_alloc w1 _ (some b)) hg3)))
      clear hs3 hg3 HS2 HG2
      have hxz : (X : Int) < 10 := by omega
      go_wp2
      go_roundw
      case rel => exact ⟨k - 1, t ++ u ++ v, a3, sd3, by omega, by go_num, rfl, by rw [ByteArray.size_append, ByteArray.size_append]; omega, by omega, by omega, hd4, hd5, HR.out.1, HR.out.2⟩
      case measure => simp [intOf]; omega
    · have HK : Hid (k = 0) := by show k = 0; omega
      go_wp2
      go_ret
      unfold DrawnT
      exact ⟨t, a1, sd1, rfl, by omega, by omega, by omega, hd0, hd1, HSr.out, HGr.out⟩
end Go.Proofs.YtpdiaddgialanaaGreatDoor
