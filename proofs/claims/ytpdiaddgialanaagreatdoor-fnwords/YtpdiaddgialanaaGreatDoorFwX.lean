import Derived.Test.YtpdiaddgialanaaGreatDoorFwW
import Derived.Test.YtpdiaddgialanaaGreatDoorDecW
import Derived.Test.YtpdiaddgialanaaGreatDoorAtL
namespace Go.Proofs.YtpdiaddgialanaaGreatDoor
open Go Go.RowKit
set_option linter.unusedVariables false
set_option linter.unusedSimpArgs false
set_option maxRecDepth 100000

/-! The law of words. -/
theorem CodeIn.grownN {w w' : World} (h : w.grownBy w' none) : Below w.heap.size w w' := (Below.refl _ _).grown h (Nat.le_refl _) (fun k hk => by cases hk)
/-- The six letters. -/
def sixB : List Value := [.string ⟨#[97]⟩, .string ⟨#[122]⟩, .string ⟨#[81]⟩, .string ⟨#[55]⟩, .string ⟨#[195, 169]⟩, .string ⟨#[95]⟩]
theorem six_at (x : Nat) (h : x < 6) : ∃ r D, r ∈ wdR ∧ sixB[x]? = some (.string D) ∧ D = bs (Lib.encodeRune r) ∧ D.size ≤ 2 := by
  rcases (by omega : x = 0 ∨ x = 1 ∨ x = 2 ∨ x = 3 ∨ x = 4 ∨ x = 5) with rfl | rfl | rfl | rfl | rfl | rfl
  · exact ⟨97, _, by decide, rfl, rfl, by decide⟩
  · exact ⟨122, _, by decide, rfl, rfl, by decide⟩
  · exact ⟨81, _, by decide, rfl, rfl, by decide⟩
  · exact ⟨55, _, by decide, rfl, rfl, by decide⟩
  · exact ⟨233, _, by decide, rfl, rfl, by decide⟩
  · exact ⟨95, _, by decide, rfl, rfl, by decide⟩
/-- What the loop has made: a word. -/
def WdI (w : World) (N : Nat) (wv i : Value) (wr : World) : Prop := ∃ (k : Nat) (ws : List Int), k ≤ N ∧ i = .int .i64 (k : Int) ∧ ws.length = k ∧ (∀ r ∈ ws, r ∈ wdR) ∧ wv = .string (bs (encs ws)) ∧ Below w.heap.size w wr
theorem WdI.step {w w2 : World} {N k : Nat} {ws : List Int} {r : Int} {D : ByteArray} (hk : k < N) (hl : ws.length = k) (hw : ∀ r ∈ ws, r ∈ wdR) (hr : r ∈ wdR) (hD : D = bs (Lib.encodeRune r)) (hb : Below w.heap.size w w2) : WdI w N (.string (bs (encs ws) ++ D)) (.int .i64 ((k + 1 : Nat) : Int)) w2 := by
  refine ⟨k + 1, ws ++ [r], hk, rfl, by simp [hl], ?_, ?_, hb⟩
  · intro x hx
    simp only [List.mem_append, List.mem_cons, List.not_mem_nil, or_false] at hx
    rcases hx with hx | rfl
    · exact hw x hx
    · exact hr
  · subst hD
    congr 1
    rw [encs_snoc]
    apply ByteArray.ext
    simp [bs]
theorem cat_law (wd db : List UInt8) : ((((((⟨#[43, 102, 49, 58]⟩ : ByteArray) ++ bs wd) ++ ⟨#[94]⟩) ++ bs db) ++ ⟨#[32, 45]⟩) ++ bs wd) = bs (lwL wd db) := by
  apply ByteArray.ext
  simp [bs, lwL]
set_option maxHeartbeats 8000000 in
theorem words_loop (ao : Option Addr) (n cap : Nat) (bo : Option Addr) (m cab : Nat) (w : World) (hn : n ≤ 1048576) (hc : CodeIn w ao n) (hm : m ≤ 1048576) (hcb : CodeIn w bo m) (hT : Tabs w) :
    Calls Tryz.prog 4 #[.slice ao n cap, .slice bo m cab] w fun e w' => e = .returned (.bool true) ∧ Below w.heap.size w w' := by
  have hnz : ¬ (n : Int) > 1048576 := by omega
  have hmz : ¬ (m : Int) > 1048576 := by omega
  obtain ⟨N, hN⟩ : ∃ N : Nat, 1 + (n : Int) % 12 = (N : Int) := ⟨1 + n % 12, by omega⟩
  have hNb : 1 ≤ N ∧ N ≤ 12 := by omega
  have HC := hidd hc
  have HCb := hidd hcb
  have HT := hidd hT
  clear hc hcb hT
  go_enter Tryz.func4, Tryz.ntmps4
  go_wp2_with fail
  go_loopw [5, 6] (fun wv i wr => WdI w N wv i wr) (fun _ i _ => N - (intOf i).toNat)
  case atStart => exact ⟨0, [], Nat.zero_le _, rfl, rfl, fun r hr => (by cases hr), rfl, Below.refl _ _⟩
  case round =>
    obtain ⟨k, ws, hk, rfl, hl, hw, rfl, hb⟩ := hrel
    have HL := hidd hl
    have HW := hidd hw
    have HB := hidd hb
    have hXs : (bs (encs ws)).size ≤ 24 := by have := wds_small ws hw; rw [bs_size]; omega
    clear hl hw hb
    obtain ⟨X, hX⟩ : ∃ X, bs (encs ws) = X := ⟨_, rfl⟩
    have HX := hidd hX
    rw [hX] at hXs
    simp only [hX]
    clear hX
    by_cases hlt : k < N
    · have hltz : (k : Int) < (N : Int) := by omega
      go_wp2_with fail
      have hbA : Below wr.heap.size wr (wr.alloc (.cells #[.string ⟨#[97]⟩, .string ⟨#[122]⟩, .string ⟨#[81]⟩, .string ⟨#[55]⟩, .string ⟨#[195, 169]⟩, .string ⟨#[95]⟩] 9)) := (Below.refl _ _).alloc (Nat.le_refl _) _
      have HA := hidd (heap_alloc_new wr (.cells #[.string ⟨#[97]⟩, .string ⟨#[122]⟩, .string ⟨#[81]⟩, .string ⟨#[55]⟩, .string ⟨#[195, 169]⟩, .string ⟨#[95]⟩] 9))
      have HB1 := hidd (HB.out.trans (hbA.mono HB.out.size))
      clear hbA HB
      obtain ⟨gs, hgs⟩ : ∃ g, wr.heap.size = g := ⟨_, rfl⟩
      rw [hgs] at HA
      simp only [hgs]
      clear hgs
      generalize wr.alloc (.cells #[.string ⟨#[97]⟩, .string ⟨#[122]⟩, .string ⟨#[81]⟩, .string ⟨#[55]⟩, .string ⟨#[195, 169]⟩, .string ⟨#[95]⟩] 9) = w1 at *
      refine (lawAt_any ao n cap k 6 w1 hn (by omega) (by omega) (by omega) (HC.out.below HB1.out)).mono ?_
      rintro e w2 ⟨x, rfl, hx, hg⟩
      have hb2 := CodeIn.grownN hg
      have HB2 := hidd (HB1.out.trans (hb2.mono HB1.out.size))
      obtain ⟨r, D, hr, hD, hDb, hDs⟩ := six_at x hx
      have hcell : w2.cell? ⟨gs, x, none⟩ = some (.string D) := by
        rw [blkc (blko HA.out hb2) x]
        rw [← hD]
        simp [sixB]
      have HR := hidd hr
      have HDb := hidd hDb
      have hxz : (x : Int) < 6 := by omega
      clear hr hD hDb hb2 hg HA HB1
      have HS : Hid (WdI w N (.string (X ++ D)) (.int .i64 ((k + 1 : Nat) : Int)) w2) := by
        have := WdI.step hlt HL.out HW.out HR.out HDb.out HB2.out
        rwa [HX.out] at this
      have hcat : X.size + D.size ≤ 9223372036854775807 := by omega
      clear HL HW HR HDb HB2 HX
      go_wp2_with fail
      go_roundw
      case rel => exact HS.out
      all_goals (simp only [intOf]; omega)
    · have hltz : ¬ (k : Int) < (N : Int) := by omega
      have hkN : k = N := by omega
      subst hkN
      go_wp2_with fail
      refine (lawAt_any bo m cab 0 99 wr hm (by omega) (by omega) (by omega) (HCb.out.below HB.out)).mono ?_
      rintro e w2 ⟨x, rfl, hx, hg⟩
      have hb2 := CodeIn.grownN hg
      have HB2 := hidd (HB.out.trans (hb2.mono HB.out.size))
      clear hb2 hg HB
      obtain ⟨b, hb⟩ : ∃ b : Nat, 1 + (x : Int) = (b : Int) := ⟨1 + x, by omega⟩
      have hb1 : 1 ≤ b ∧ b ≤ 99 := by omega
      have HD : Hid (∀ V, Calls Tryz.prog 11 #[.int .i64 (b : Int)] V fun e w' => e = .returned (.string (bs (decB b))) ∧ Below V.heap.size V w') := fun V => dec_any b V (by omega)
      have HQ : Hid (∀ V, Tabs V → Calls Tryz.prog 10 #[.string (((((⟨#[43, 102, 49, 58]⟩ ++ X) ++ ⟨#[94]⟩) ++ bs (decB b)) ++ ⟨#[32, 45]⟩) ++ X)] V fun e w' => ∃ gq cq ks, e = .returned (.tuple #[.agg #[.slice (some ⟨gq, 0, none⟩) 3 cq], .int .i64 0]) ∧ w'.ownsRow V.heap.size 45 10 (.slice (some ⟨gq, 0, none⟩) 3 cq) 3 (threeN 0 1 0 ks 1 b ⟨#[102, 49]⟩ X 2 1 ⟨#[]⟩ X) ∧ Below V.heap.size V w') := fun V hV => by
        have := parseQuery_any ws b HW.out (by have := HL.out; omega) (by have := HL.out; omega) hb1.1 hb1.2 V hV
        rw [lawT, ← cat_law, HX.out] at this
        exact this
      have hDs : (bs (decB b)).size ≤ 2 := by rw [bs_size]; exact (decB_len b).2
      generalize bs (decB b) = D at *
      clear HW HL HX hN hx
      go_wp2_with fail
      refine (HD.out _).mono ?_
      rintro e w3 ⟨rfl, hb3⟩
      have HB3 := hidd (HB2.out.trans (hb3.mono HB2.out.size))
      clear hb3 HB2 HD
      go_wp2_with fail
      refine (HQ.out _ (HT.out.below HB3.out)).mono ?_
      rintro e w4 ⟨gq, cq, ks, rfl, ho, hb4⟩
      have HB4 := hidd (HB3.out.trans (hb4.mono HB3.out.size))
      have HO4 := hidd ho
      clear hb4 ho HB3 HQ
      go_upto_region 10 with fail
      have hbA : Below w4.heap.size w4 (w4.alloc (.cells #[.slice (some ⟨gq, 0, none⟩) 3 cq] 40)) := (Below.refl _ _).alloc (Nat.le_refl _) _
      have HA := hidd (heap_alloc_new w4 (.cells #[.slice (some ⟨gq, 0, none⟩) 3 cq] 40))
      have HB5 := hidd (HB4.out.trans (hbA.mono HB4.out.size))
      have HO5 := hidd (own_belowN HO4.out hbA)
      clear hbA HB4 HO4
      obtain ⟨g8, hg8⟩ : ∃ g, w4.heap.size = g := ⟨_, rfl⟩
      rw [hg8] at HA
      simp only [hg8]
      clear hg8
      generalize w4.alloc (.cells #[.slice (some ⟨gq, 0, none⟩) 3 cq] 40) = w5 at *
      have q0 := blkc HA.out 0
      simp only [List.getElem?_toArray, List.getElem?_cons_zero] at q0
      have n0 := HO5.out.cellAt 0 (by omega)
      have n10 := HO5.out.cellAt 10 (by omega)
      have n11 := HO5.out.cellAt 11 (by omega)
      have n12 := HO5.out.cellAt 12 (by omega)
      have n13 := HO5.out.cellAt 13 (by omega)
      have n14 := HO5.out.cellAt 14 (by omega)
      have n15 := HO5.out.cellAt 15 (by omega)
      have n16 := HO5.out.cellAt 16 (by omega)
      have n17 := HO5.out.cellAt 17 (by omega)
      have n18 := HO5.out.cellAt 18 (by omega)
      have n19 := HO5.out.cellAt 19 (by omega)
      have n20 := HO5.out.cellAt 20 (by omega)
      have n21 := HO5.out.cellAt 21 (by omega)
      have n22 := HO5.out.cellAt 22 (by omega)
      have n23 := HO5.out.cellAt 23 (by omega)
      have n24 := HO5.out.cellAt 24 (by omega)
      have n25 := HO5.out.cellAt 25 (by omega)
      have n26 := HO5.out.cellAt 26 (by omega)
      have n27 := HO5.out.cellAt 27 (by omega)
      have n28 := HO5.out.cellAt 28 (by omega)
      have n29 := HO5.out.cellAt 29 (by omega)
      simp only [threeN, ndL, List.cons_append, List.nil_append, List.getElem?_cons_zero, List.getElem?_cons_succ] at n0 n10 n11 n12 n13 n14 n15 n16 n17 n18 n19 n20 n21 n22 n23 n24 n25 n26 n27 n28 n29
      go_upto_region 13 with fail
      have hbA : Below w5.heap.size w5 (w5.alloc (.cells #[.int .i64 1, .int .i64 1, .int .i64 (b : Int), .int .i64 0, .int .i64 0, .int .i64 0, .int .i64 0, .string ⟨#[102, 49]⟩, .string X, .slice none 0 0] 45)) := (Below.refl _ _).alloc (Nat.le_refl _) _
      have HA6 := hidd (heap_alloc_new w5 (.cells #[.int .i64 1, .int .i64 1, .int .i64 (b : Int), .int .i64 0, .int .i64 0, .int .i64 0, .int .i64 0, .string ⟨#[102, 49]⟩, .string X, .slice none 0 0] 45))
      have HB6 := hidd (HB5.out.trans (hbA.mono HB5.out.size))
      have HO6 := hidd (own_belowN HO5.out hbA)
      have HQ6 := hidd (blko HA.out hbA)
      clear hbA HB5 HO5 HA q0 n0 n10 n11 n12 n13 n14 n15 n16 n17 n18 n19 n20 n21 n22 n23 n24 n25 n26 n27 n28 n29
      obtain ⟨ga, hga⟩ : ∃ g, w5.heap.size = g := ⟨_, rfl⟩
      rw [hga] at HA6
      simp only [hga]
      clear hga
      generalize w5.alloc (.cells #[.int .i64 1, .int .i64 1, .int .i64 (b : Int), .int .i64 0, .int .i64 0, .int .i64 0, .int .i64 0, .string ⟨#[102, 49]⟩, .string X, .slice none 0 0] 45) = w6 at *
      have q0 := blkc HQ6.out 0
      simp only [List.getElem?_toArray, List.getElem?_cons_zero] at q0
      have n20 := HO6.out.cellAt 20 (by omega)
      have n21 := HO6.out.cellAt 21 (by omega)
      have n22 := HO6.out.cellAt 22 (by omega)
      have n23 := HO6.out.cellAt 23 (by omega)
      have n24 := HO6.out.cellAt 24 (by omega)
      have n25 := HO6.out.cellAt 25 (by omega)
      have n26 := HO6.out.cellAt 26 (by omega)
      have n27 := HO6.out.cellAt 27 (by omega)
      have n28 := HO6.out.cellAt 28 (by omega)
      have n29 := HO6.out.cellAt 29 (by omega)
      simp only [threeN, ndL, List.cons_append, List.nil_append, List.getElem?_cons_zero, List.getElem?_cons_succ] at n20 n21 n22 n23 n24 n25 n26 n27 n28 n29
      go_upto_region 14 with fail
      have hbA : Below w6.heap.size w6 (w6.alloc (.cells #[.int .i64 1, .int .i64 2, .int .i64 1, .int .i64 0, .int .i64 0, .int .i64 0, .int .i64 0, .string ⟨#[]⟩, .string X, .slice none 0 0] 45)) := (Below.refl _ _).alloc (Nat.le_refl _) _
      have HA7 := hidd (heap_alloc_new w6 (.cells #[.int .i64 1, .int .i64 2, .int .i64 1, .int .i64 0, .int .i64 0, .int .i64 0, .int .i64 0, .string ⟨#[]⟩, .string X, .slice none 0 0] 45))
      have HB7 := hidd (HB6.out.trans (hbA.mono HB6.out.size))
      have HO7 := hidd (own_belowN HO6.out hbA)
      have HQ7 := hidd (blko HQ6.out hbA)
      have HX7 := hidd (blko HA6.out hbA)
      clear hbA HB6 HO6 HA6 HQ6 q0 n20 n21 n22 n23 n24 n25 n26 n27 n28 n29
      obtain ⟨gb, hgb⟩ : ∃ g, w6.heap.size = g := ⟨_, rfl⟩
      rw [hgb] at HA7
      simp only [hgb]
      clear hgb
      generalize w6.alloc (.cells #[.int .i64 1, .int .i64 2, .int .i64 1, .int .i64 0, .int .i64 0, .int .i64 0, .int .i64 0, .string ⟨#[]⟩, .string X, .slice none 0 0] 45) = w7 at *
      have q0 := blkc HQ7.out 0
      have n0 := HO7.out.cellAt 0 (by omega)
      have a0 := blkc HX7.out 0
      have b0 := blkc HA7.out 0
      have a1 := blkc HX7.out 1
      have b1 := blkc HA7.out 1
      have a2 := blkc HX7.out 2
      have b2 := blkc HA7.out 2
      have a7 := blkc HX7.out 7
      have b7 := blkc HA7.out 7
      have a8 := blkc HX7.out 8
      have b8 := blkc HA7.out 8
      simp only [threeN, ndL, List.cons_append, List.nil_append, List.getElem?_toArray, List.getElem?_cons_zero, List.getElem?_cons_succ] at q0 n0 a0 a1 a2 a7 a8 b0 b1 b2 b7 b8
      go_wp2
      go_ret
      exact ⟨rfl, HB7.out⟩
end Go.Proofs.YtpdiaddgialanaaGreatDoor
