import Derived.Test.YtjmfkgbpgbpgnaaSrcA
namespace Go.Proofs.Ytjmfkgbpgbpgnaa
open Go Go.RowKit
set_option linter.unusedVariables false

theorem SrcAt.alloc {w : World} {b : Nat} {cv : Value} {a sd : Int} (h : SrcAt w b cv a sd) (o : Obj) : SrcAt (w.alloc o) b cv a sd := by
  unfold SrcAt at *
  rw [Below.heap_alloc w o b (Array.getElem?_eq_some_iff.1 h).1]
  exact h
theorem Code.alloc {w : World} {b : Nat} {ao : Option Addr} {n : Nat} (h : Code w b ao n) (o : Obj) : Code (w.alloc o) b ao n := h.kept (World.grownBy_alloc w o (some b))
theorem SrcAt.kept {w w' : World} {b : Nat} {cv : Value} {a sd : Int} (h : SrcAt w b cv a sd) {row : Option Nat} (hg : w.grownBy w' row) (hne : row ≠ some b) : SrcAt w' b cv a sd := by
  unfold SrcAt at *
  rw [hg.block b (Array.getElem?_eq_some_iff.1 h).1 (fun e => hne e.symm)]
  exact h

set_option maxHeartbeats 1000000 in
theorem source_any (ao : Option Addr) (n cap : Nat) (w : World) (hn : n ≤ 1048576) :
    Calls Try.prog 17 #[.slice ao n cap] w fun e w' => e = .returned (.pointer (some ⟨w.heap.size, 0, none⟩)) ∧ SrcAt w' w.heap.size (.slice ao n cap) 0 ((n : Int) % 1000) ∧ w.grownBy w' none := by
  go_enter Try.func17, Try.ntmps17
  go_wp2
  go_ret
  exact ⟨rfl, heap_alloc_new w _, World.grownBy_alloc w _ none⟩

def CodeIn (w : World) (ao : Option Addr) (n : Nat) : Prop := ∀ j, j < n → ∃ blk off z, ao = some ⟨blk, off, none⟩ ∧ blk < w.heap.size ∧ 0 ≤ z ∧ z ≤ 255 ∧ w.cell? ⟨blk, off + j, none⟩ = some (.int .u8 z)
theorem CodeIn.code {w w' : World} {ao : Option Addr} {n : Nat} (h : CodeIn w ao n) (hg : w.grownBy w' none) : Code w' w.heap.size ao n := fun j hj => by
  obtain ⟨blk, off, z, h1, h2, h3, h4, h5⟩ := h j hj
  exact ⟨blk, off, z, h1, by omega, h3, h4, hg.cell h5 (by simp)⟩
theorem CodeIn.below {w w' : World} {ao : Option Addr} {n : Nat} (h : CodeIn w ao n) (hb : Below w.heap.size w w') : CodeIn w' ao n := fun j hj => by
  obtain ⟨blk, off, z, h1, h2, h3, h4, h5⟩ := h j hj
  exact ⟨blk, off, z, h1, Nat.lt_of_lt_of_le h2 hb.size, h3, h4, by rw [hb.cell (p := ⟨blk, off + j, none⟩) h2]; exact h5⟩
theorem below_src {w w1 w2 : World} (h : w.grownBy w1 none) (k : w1.grownBy w2 (some w.heap.size)) : Below w.heap.size w w2 :=
  ⟨k.os.trans h.os, k.tape.trans h.tape, k.output.trans h.output, Nat.le_trans h.size k.size, fun i hi => by rw [k.block i (Nat.lt_of_lt_of_le hi h.size) (by simp; omega), h.block i hi (by simp)]⟩
/-- What is written into a newer block is none of the old ones'. -/
theorem grown_new {w w1 w2 : World} {b : Nat} {row : Option Nat} (h : w.grownBy w1 (some b)) (k : w1.grownBy w2 row) (hr : ∀ g, row = some g → w.heap.size ≤ g) : w.grownBy w2 (some b) :=
  ⟨k.os.trans h.os, k.tape.trans h.tape, k.output.trans h.output, Nat.le_trans h.size k.size, fun i hi hb => by
    rw [k.block i (Nat.lt_of_lt_of_le hi h.size) (fun e => by have := hr i e.symm; omega), h.block i hi hb]⟩

def intB : Value → Bool
  | .int .i64 z => true
  | _ => false
theorem intB_ok {v : Value} (h : intB v = true) : ∃ z, v = .int .i64 z := by
  cases v with
  | int k z => cases k <;> first | exact ⟨z, rfl⟩ | cases h
  | _ => cases h
theorem table_int {w w1 : World} {C : Array Value} {t : TypeId} {b : Nat} (hg : (w.alloc (.cells C t)).grownBy w1 (some b)) (hb : b < w.heap.size) (hC : C.all intB = true) (j : Nat) (hj : j < C.size) :
    ∃ z, w1.cell? ⟨w.heap.size, j, none⟩ = some (.int .i64 z) := by
  have h1 : (w.alloc (.cells C t)).cell? ⟨w.heap.size, j, none⟩ = some C[j] := by
    rw [World.cell?_alloc_at (hn := rfl)]
    exact Array.getElem?_eq_getElem hj
  have h2 := hg.cell h1 (by simp; omega)
  rw [Array.all_eq_true] at hC
  obtain ⟨z, hs⟩ := intB_ok (hC j hj)
  rw [hs] at h2
  exact ⟨z, h2⟩

/-- Some number was drawn, by at most k bytes. -/
def DrawnN (w : World) (b : Nat) (cv : Value) (a k : Int) (e : Ending) (w' : World) : Prop :=
  ∃ x a' sd' : Int, e = .returned (.int .i64 x) ∧ a ≤ a' ∧ a' ≤ a + k ∧ 0 ≤ sd' ∧ sd' < 2147483648 ∧ SrcAt w' b cv a' sd' ∧ w.grownBy w' (some b)

set_option maxHeartbeats 2000000 in
set_option maxRecDepth 100000 in
theorem drawNum_any (b : Nat) (ao : Option Addr) (n cap : Nat) (a sd : Int) (w : World) (hn : n ≤ 1048576) (ha0 : 0 ≤ a) (ha2 : a ≤ 274877906944) (hs0 : 0 ≤ sd) (hs1 : sd < 2147483648)
    (hs : SrcAt w b (.slice ao n cap) a sd) (hc : Code w b ao n) :
    Calls Try.prog 24 #[.pointer (some ⟨b, 0, none⟩)] w fun e w' => DrawnN w b (.slice ao n cap) a 9 e w' := by
  have HS := hidd hs
  have HC := hidd hc
  have hb := hs.lt
  clear hs hc
  go_enter Try.func24, Try.ntmps24
  go_wp2_with fail
  refine (next_any b ao n cap a sd 12 _ hn (by omega) (by omega) ha0 (by omega) hs0 hs1 HS.out HC.out).mono ?_
  rintro e w1 ⟨x, a1, sd1, rfl, hx0, hx1, ha3, ha4, hd0, hd1, hs1', hg1⟩
  have HS1 := hidd hs1'
  have HG1 := hidd hg1
  have HC1 := hidd (HC.out.kept hg1)
  have hb1 := hs1'.lt
  clear hs1' hg1 HS HC
  by_cases h0 : x = 0
  · subst h0
    go_wp2_with fail
    refine (next_any b ao n cap a1 sd1 10 _ hn (by omega) (by omega) (by omega) (by omega) hd0 hd1 (by exact HS1.out.alloc _) (by exact HC1.out.alloc _)).mono ?_
    rintro e w3 ⟨y, a3, sd3, rfl, hy0, hy1, ha7, ha8, hd4, hd5, hs3, hg3⟩
    obtain ⟨X, rfl⟩ := Int.eq_ofNat_of_zero_le hy0
    obtain ⟨v, hv⟩ := table_int hg3 hb1 (by decide +kernel) X (by show X < 10; omega)
    have HR := hidd (And.intro hs3 (grown_trans HG1.out (grown_trans (World.grownBy_alloc w1 _ (some b)) hg3)))
    clear hs3 hg3 HS1 HG1 HC1
    have hxz : (X : Int) < 10 := by omega
    go_wp2
    go_ret
    unfold DrawnN
    exact ⟨v, a3, sd3, rfl, by omega, by omega, hd4, hd5, HR.out.1, HR.out.2⟩
  · have h0n : (x == 0) = false := beq_eq_false_iff_ne.2 h0
    by_cases h1 : x = 1
    · subst h1
      go_wp2_with fail
      refine (next_any b ao n cap a1 sd1 16777216 _ hn (by omega) (by omega) (by omega) (by omega) hd0 hd1 HS1.out HC1.out).mono ?_
      rintro e w2 ⟨y, a2, sd2, rfl, hy0, hy1, ha5, ha6, hd2, hd3, hs2, hg2⟩
      have HS2 := hidd hs2
      have HG2 := hidd (grown_trans HG1.out hg2)
      have HC2 := hidd (HC1.out.kept hg2)
      clear hs2 hg2 HS1 HG1 HC1
      go_wp2_with fail
      refine (next_any b ao n cap a2 sd2 65536 _ hn (by omega) (by omega) (by omega) (by omega) hd2 hd3 HS2.out HC2.out).mono ?_
      rintro e w3 ⟨z, a3, sd3, rfl, hz0, hz1, ha7, ha8, hd4, hd5, hs3, hg3⟩
      have HR := hidd (And.intro hs3 (grown_trans HG2.out hg3))
      clear hs3 hg3 HS2 HG2 HC2
      go_wp2
      go_ret
      unfold DrawnN
      exact ⟨_, a3, sd3, rfl, by omega, by omega, hd4, hd5, HR.out.1, HR.out.2⟩
    · have h1n : (x == 1) = false := beq_eq_false_iff_ne.2 h1
      by_cases h2 : x = 2 ∨ x = 3
      · rcases h2 with rfl | rfl
        all_goals
          go_wp2_with fail
          refine (next_any b ao n cap a1 sd1 100000 _ hn (by omega) (by omega) (by omega) (by omega) hd0 hd1 HS1.out HC1.out).mono ?_
          rintro e w2 ⟨y, a2, sd2, rfl, hy0, hy1, ha5, ha6, hd2, hd3, hs2, hg2⟩
          have HR := hidd (And.intro hs2 (grown_trans HG1.out hg2))
          clear hs2 hg2
          go_wp2
          go_ret
          unfold DrawnN
          exact ⟨_, a2, sd2, rfl, by omega, by omega, hd2, hd3, HR.out.1, HR.out.2⟩
      · have h2n : (x == 2) = false := beq_eq_false_iff_ne.2 (by omega)
        have h3n : (x == 3) = false := beq_eq_false_iff_ne.2 (by omega)
        go_wp2_with fail
        refine (next_any b ao n cap a1 sd1 60 _ hn (by omega) (by omega) (by omega) (by omega) hd0 hd1 HS1.out HC1.out).mono ?_
        rintro e w2 ⟨y, a2, sd2, rfl, hy0, hy1, ha5, ha6, hd2, hd3, hs2, hg2⟩
        have HR := hidd (And.intro hs2 (grown_trans HG1.out hg2))
        clear hs2 hg2
        go_wp2
        go_ret
        unfold DrawnN
        exact ⟨_, a2, sd2, rfl, by omega, by omega, hd2, hd3, HR.out.1, HR.out.2⟩

set_option maxHeartbeats 2000000 in
set_option maxRecDepth 100000 in
theorem drawOdd_any (b : Nat) (ao : Option Addr) (n cap : Nat) (a sd : Int) (w : World) (hn : n ≤ 1048576) (ha0 : 0 ≤ a) (ha2 : a ≤ 137438953472) (hs0 : 0 ≤ sd) (hs1 : sd < 2147483648)
    (hs : SrcAt w b (.slice ao n cap) a sd) (hc : Code w b ao n) :
    Calls Try.prog 20 #[.pointer (some ⟨b, 0, none⟩)] w fun e w' => DrawnN w b (.slice ao n cap) a 12 e w' := by
  have HS := hidd hs
  have HC := hidd hc
  have hb := hs.lt
  clear hs hc
  go_enter Try.func20, Try.ntmps20
  go_wp2_with fail
  refine (chance_any b ao n cap a sd 6 _ hn (by omega) (by omega) ha0 (by omega) hs0 hs1 HS.out HC.out).mono ?_
  rintro e w1 ⟨x, a1, sd1, rfl, ha3, ha4, hd0, hd1, hs1', hg1⟩
  have HS1 := hidd hs1'
  have HG1 := hidd hg1
  have HC1 := hidd (HC.out.kept hg1)
  have hb1 := hs1'.lt
  clear hs1' hg1 HS HC
  cases x with
  | true =>
    go_wp2_with fail
    refine (next_any b ao n cap a1 sd1 4 _ hn (by omega) (by omega) (by omega) (by omega) hd0 hd1 (by exact HS1.out.alloc _) (by exact HC1.out.alloc _)).mono ?_
    rintro e w3 ⟨y, a3, sd3, rfl, hy0, hy1, ha7, ha8, hd4, hd5, hs3, hg3⟩
    obtain ⟨X, rfl⟩ := Int.eq_ofNat_of_zero_le hy0
    obtain ⟨v, hv⟩ := table_int hg3 hb1 (by decide +kernel) X (by show X < 4; omega)
    have HR := hidd (And.intro hs3 (grown_trans HG1.out (grown_trans (World.grownBy_alloc w1 _ (some b)) hg3)))
    clear hs3 hg3 HS1 HG1 HC1
    have hxz : (X : Int) < 4 := by omega
    go_wp2
    go_ret
    unfold DrawnN
    exact ⟨v, a3, sd3, rfl, by omega, by omega, hd4, hd5, HR.out.1, HR.out.2⟩
  | false =>
    go_wp2_with fail
    refine (drawNum_any b ao n cap a1 sd1 _ hn (by omega) (by omega) hd0 hd1 HS1.out HC1.out).mono ?_
    rintro e w2 ⟨y, a2, sd2, rfl, ha5, ha6, hd2, hd3, hs2, hg2⟩
    have HR := hidd (And.intro hs2 (grown_trans HG1.out hg2))
    clear hs2 hg2
    go_wp2
    go_ret
    unfold DrawnN
    exact ⟨_, a2, sd2, rfl, by omega, by omega, hd2, hd3, HR.out.1, HR.out.2⟩
end Go.Proofs.Ytjmfkgbpgbpgnaa
