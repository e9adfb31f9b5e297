import Derived.Test.YtoinajfliogcdaaDoorNearJ40
import Derived.WalkMore
namespace Go.Proofs.YtoinajfliogcdaaDoor
open Go Go.RowKit
set_option linter.unusedVariables false
set_option linter.unusedSimpArgs false
set_option maxRecDepth 100000

theorem seven_other (W : World) (b : Nat) (y0 y1 y2 y3 y4 y5 y6 : Value) (g : Nat) (hg : g ≠ b) : (((((((W.setCell ⟨b, 0, none⟩ y0).setCell ⟨b, 1, none⟩ y1).setCell ⟨b, 2, none⟩ y2).setCell ⟨b, 3, none⟩ y3).setCell ⟨b, 4, none⟩ y4).setCell ⟨b, 5, none⟩ y5).setCell ⟨b, 6, none⟩ y6).heap[g]? = W.heap[g]? := by
 rw [heap_set_other _ _ _ _ _ hg, heap_set_other _ _ _ _ _ hg, heap_set_other _ _ _ _ _ hg, heap_set_other _ _ _ _ _ hg, heap_set_other _ _ _ _ _ hg, heap_set_other _ _ _ _ _ hg, heap_set_other _ _ _ _ _ hg]
theorem ln_move {word ls : List Int} {k head : Nat} {w w8 w9 : World} {e : Ending} (hB : Below w.heap.size w w8) (hR : w8.heap[w.heap.size]? = some (.cells #[.slice none 0 0] 27)) (h : LnPost word ls k head w8 e w9) :
  ∃ ad n c code, e = .returned (.tuple #[.agg #[.slice ad n c], .int .i64 code]) ∧ Below w8.heap.size w8 w9 ∧ ∀ W', (∀ b, b ≠ w.heap.size → W'.heap[b]? = w9.heap[b]?) → Below w.heap.size w W' → LnPost word ls k head w (.returned (.tuple #[.agg #[.slice ad n c], .int .i64 code])) W' := by
 obtain ⟨h1, h2⟩ := h
 rcases h2 with ⟨rfl, h3⟩ | ⟨v, l, h3, h4, rfl, h5⟩
 ·exact ⟨none, 0, 0, 11, rfl, h1, fun W' _ hb => ⟨hb, Or.inl ⟨rfl, h3⟩⟩⟩
 ·obtain ⟨ad, c, rfl⟩ := own_slk h5.row
  refine ⟨ad, l.length, c, 0, rfl, h1, fun W' hk hb => ⟨hb, Or.inr ⟨_, l, h3, h4, rfl, ?_⟩⟩⟩
  refine (h5.lower hB.size).congr fun b cs t ht _ hh => ?_
  rw [hk b (by
   rintro rfl
   rw [blko hR h1] at hh
   simp only [Option.some.injEq, Obj.cells.injEq] at hh
   rcases ht with rfl | rfl
   ·exact absurd hh.2.1 (by decide)
   ·exact absurd hh.2.1 (by decide))]
  exact hh
set_option maxHeartbeats 8000000 in
theorem implFuzzy_good (s : ByteArray) (kz headz : Int) (w : World) (hs : s.size ≤ 1048576) (hT : Tabs w) (hgood : fzCode s kz headz = 0) :
  Calls Tryd.prog 9 #[.string s, .int .i64 kz, .int .i64 headz] w (LnPost (decList s) (lettersZ (decList s)) kz.toNat headz.toNat w) := by
 have HDec := hidd (implDecode_any s (w.alloc (.cells #[.slice none 0 0] 27)) hs (hT.below ((Below.refl _ _).alloc (Nat.le_refl _) _)))
 have hq : decCode s = 0 ∧ (decList s).length ≤ 30 ∧ 0 ≤ kz ∧ kz ≤ 2 ∧ 0 ≤ headz ∧ headz ≤ (decList s).length := by
  unfold fzCode at hgood
  split at hgood
  ·split at hgood
   ·exact ⟨by assumption, by assumption⟩
   ·omega
  ·exact absurd hgood (by assumption)
 obtain ⟨hc, hl, hk1, hk2, hh1, hh2⟩ := hq
 obtain ⟨k, rfl⟩ : ∃ k : Nat, kz = (k : Int) := ⟨kz.toNat, by omega⟩
 obtain ⟨head, rfl⟩ : ∃ head : Nat, headz = (head : Int) := ⟨headz.toNat, by omega⟩
 simp only [Int.toNat_natCast]
 have HBd := hidd (decList_bd s)
 have HC := hidd hc
 have hkn : k ≤ 2 := by omega
 have hhn : head ≤ (decList s).length := by omega
 clear hgood hc hT
 go_enter Tryd.func9, Tryd.ntmps9
 go_wp2_with fail
 refine HDec.out.mono ?_
 rintro e w2 ⟨vw, rfl, hown, hb2⟩
 rw [HC.out]
 obtain ⟨hr2, -, -, -, -, hbw2⟩ := fz_end w w2 hb2
 have HV := hidd (HoldI.own (zs := decList s) hown)
 obtain ⟨aw, cw, rfl⟩ := own_sl1 hown
 have HR2 := hidd hr2
 have HB2 := hidd hbw2
 have g1 : ¬ (30 : Int) < ((decList s).length : Int) := by omega
 have d1 : decide ((30 : Int) < ((decList s).length : Int)) = false := decide_eq_false g1
 have HW1 := hidd (within_any (k : Int) 0 2 w2)
 have HW2 := hidd (within_any (head : Int) 0 (decList s).length w2)
 rw [show (decide (0 ≤ (k : Int)) && decide ((k : Int) ≤ 2)) = true by simp; omega] at HW1
 rw [show (decide (0 ≤ (head : Int)) && decide ((head : Int) ≤ ((decList s).length : Int))) = true by simp; omega] at HW2
 clear hr2 hbw2 hb2 hown HDec
 generalize decList s = word at *
 go_wp2_with fail
 refine HW1.out.mono ?_
 rintro e w3 ⟨rfl, rfl⟩
 go_wp2_with fail
 refine HW2.out.mono ?_
 rintro e w3 ⟨rfl, rfl⟩
 go_upto_region 7 with fail
 have hb3 : Below w3.heap.size w3 (w3.alloc (.cells #[.slice aw word.length cw, .int .i64 (k : Int), .int .i64 (head : Int)] 68)) := (Below.refl _ _).alloc (Nat.le_refl _) _
 have hn3 := heap_alloc_new w3 (.cells #[.slice aw word.length cw, .int .i64 (k : Int), .int .i64 (head : Int)] 68)
 have HB3 := hidd (HB2.out.trans (hb3.mono HB2.out.size))
 have HR3 := hidd (blko HR2.out hb3)
 have HV3 := hidd (HV.out.below hb3)
 have hfr : w.heap.size < w3.heap.size := (Array.getElem?_eq_some_iff.1 HR2.out).1
 obtain ⟨fb, hfb⟩ : ∃ fb, w3.heap.size = fb := ⟨_, rfl⟩
 rw [hfb] at hn3 hfr
 simp only [hfb]
 clear hb3 hfb HB2 HR2 HV HW1 HW2
 generalize w3.alloc (.cells #[.slice aw word.length cw, .int .i64 (k : Int), .int .i64 (head : Int)] 68) = W4 at *
 refine wp_region_held (S := fun u => u.heap[fb]? = some (.cells #[.slice aw word.length cw, .int .i64 (k : Int), .int .i64 (head : Int)] 68)) (by kernel_rfl) ?_
 have hbd : Below W4.heap.size W4 ({ heap := W4.heap, tape := W4.tape, drawn := W4.drawn + 1, os := W4.os, output := W4.output } : World) := (Below.refl _ _).drew
 generalize ({ heap := W4.heap, tape := W4.tape, drawn := W4.drawn + 1, os := W4.os, output := W4.output } : World) = Wd at *
 have hSd : (fun u => u.heap[fb]? = some (.cells #[.slice aw word.length cw, .int .i64 (k : Int), .int .i64 (head : Int)] 68)) Wd := blko hn3 hbd
 have hVd := HV3.out.below hbd
 have hBd := HB3.out.trans (hbd.mono HB3.out.size)
 have hRd := blko HR3.out hbd
 have hFst := first_any (.slice aw word.length cw) word k (head : Int) Wd hl hkn hVd
 try simp only [Act.put, List.getElem_toArray, List.getElem_cons_succ, List.getElem_cons_zero, List.setIfInBounds_toArray, List.set_cons_zero, List.set_cons_succ]
 refine wpAnyH_take (i := 0) (v := fzV (.slice aw word.length cw) k head) rfl (by kernel_rfl) (by kernel_rfl) (by kernel_rfl) (fun _ _ _ h => h) (Or.inl ⟨by kernel_rfl, fun W hW => exec_loadFw W _ _ _ rfl fb aw word.length cw (k : Int) (head : Int) (by kernel_rfl) (blkc hW 0) (blkc hW 1) (blkc hW 2)⟩) hSd ?_
 try simp only [Act.put, List.getElem_toArray, List.getElem_cons_succ, List.getElem_cons_zero, List.setIfInBounds_toArray, List.set_cons_zero, List.set_cons_succ]
 refine wpAnyH_take (i := 2) (v := fzV (.slice aw word.length cw) k head) rfl (by kernel_rfl) (by kernel_rfl) (by kernel_rfl) (fun _ _ _ h => h) (Or.inl ⟨by kernel_rfl, fun W hW => exec_loadFw W _ _ _ rfl fb aw word.length cw (k : Int) (head : Int) (by kernel_rfl) (blkc hW 0) (blkc hW 1) (blkc hW 2)⟩) hSd ?_
 try simp only [Act.put, List.getElem_toArray, List.getElem_cons_succ, List.getElem_cons_zero, List.setIfInBounds_toArray, List.set_cons_zero, List.set_cons_succ]
 refine tkX 3 (v := folV (.slice aw word.length cw) k head) (hS := hSd) (h := ?_)
 try simp only [Act.put, List.getElem_toArray, List.getElem_cons_succ, List.getElem_cons_zero, List.setIfInBounds_toArray, List.set_cons_zero, List.set_cons_succ]
 refine wpAnyH_take (i := 4) (v := fzV (.slice aw word.length cw) k head) rfl (by kernel_rfl) (by kernel_rfl) (by kernel_rfl) (fun _ _ _ h => h) (Or.inl ⟨by kernel_rfl, fun W hW => exec_loadFw W _ _ _ rfl fb aw word.length cw (k : Int) (head : Int) (by kernel_rfl) (blkc hW 0) (blkc hW 1) (blkc hW 2)⟩) hSd ?_
 try simp only [Act.put, List.getElem_toArray, List.getElem_cons_succ, List.getElem_cons_zero, List.setIfInBounds_toArray, List.set_cons_zero, List.set_cons_succ]
 refine tkX 5 (v := finV (.slice aw word.length cw) k head) (hS := hSd) (h := ?_)
 try simp only [Act.put, List.getElem_toArray, List.getElem_cons_succ, List.getElem_cons_zero, List.setIfInBounds_toArray, List.set_cons_zero, List.set_cons_succ]
 have hwd : w.heap.size < Wd.heap.size := (Array.getElem?_eq_some_iff.1 hRd).1
 try simp only [Act.put, List.getElem_toArray, List.getElem_cons_succ, List.getElem_cons_zero, List.setIfInBounds_toArray, List.set_cons_zero, List.set_cons_succ]
 refine wpAnyH_two 1 7 (by kernel_rfl) ?ha1 ?hb1
 case' ha1 =>
  refine wpOp_call 40 #[fzV (.slice aw word.length cw) k head] rfl (by kernel_rfl) (rbx_call1 _ _ _ _ _ _ rfl _ (by kernel_rfl) (Tryd.call40 _ _)) ?_
  refine hFst.mono ?_
  rintro e w5 ⟨rfl, hb5⟩
  have hS5 : (fun u => u.heap[fb]? = some (.cells #[.slice aw word.length cw, .int .i64 (k : Int), .int .i64 (head : Int)] 68)) w5 := blko hSd hb5
  refine ⟨hS5, ?_⟩
  try simp only [Act.put, List.getElem_toArray, List.getElem_cons_succ, List.getElem_cons_zero, List.setIfInBounds_toArray, List.set_cons_zero, List.set_cons_succ]
  refine wpAnyH_take (i := 6) (v := .agg #[.int .u64 ((firstI word.length k).1 : Int), .int .u64 ((firstI word.length k).2.1 : Int), .int .u64 ((firstI word.length k).2.2.1 : Int), .int .i64 0, folV (.slice aw word.length cw) k head, finV (.slice aw word.length cw) k head, .int .i64 9223372036854775807]) rfl (by kernel_rfl) (by kernel_rfl) (by kernel_rfl) (fun _ _ _ h => h) (Or.inl ⟨by kernel_rfl, fun W hW => exec_buildWk W _ _ _ _ _ _ rfl ((firstI word.length k).1 : Int) ((firstI word.length k).2.1 : Int) ((firstI word.length k).2.2.1 : Int) 0 9223372036854775807 41 42 (fzV (.slice aw word.length cw) k head) (fzV (.slice aw word.length cw) k head) (by kernel_rfl) (by kernel_rfl) (by kernel_rfl) (by kernel_rfl)⟩) hS5 ?_
  have hb6 : Below w5.heap.size w5 (w5.alloc (.cells #[.int .u64 0, .int .u64 0, .int .u64 0, .int .i64 0, .nilFunc, .nilFunc, .int .i64 0] 77)) := (Below.refl _ _).alloc (Nat.le_refl _) _
  have hnX := heap_alloc_new w5 (.cells #[.int .u64 0, .int .u64 0, .int .u64 0, .int .i64 0, .nilFunc, .nilFunc, .int .i64 0] 77)
  have hSX := blko hS5 hb6
  have hdX : Below Wd.heap.size Wd (w5.alloc (.cells #[.int .u64 0, .int .u64 0, .int .u64 0, .int .i64 0, .nilFunc, .nilFunc, .int .i64 0] 77)) := hb5.trans (hb6.mono hb5.size)
  have hdp : Wd.heap.size ≤ w5.heap.size := hb5.size
  have hpw : w.heap.size < w5.heap.size := Nat.lt_of_lt_of_le hwd hb5.size
  have hpf : fb ≠ w5.heap.size := by have := (Array.getElem?_eq_some_iff.1 hS5).1; omega
  try simp only [Act.put, List.getElem_toArray, List.getElem_cons_succ, List.getElem_cons_zero, List.setIfInBounds_toArray, List.set_cons_zero, List.set_cons_succ]
  refine wpAnyH_one 7 (by kernel_rfl) ?_
  refine wpOp_val _ _ rfl (by kernel_rfl) (exec_allocWk _ _ _ rfl) ?_
  refine ⟨hSX, ?_⟩
  clear hb6 hS5 hb5
  generalize w5.alloc (.cells #[.int .u64 0, .int .u64 0, .int .u64 0, .int .i64 0, .nilFunc, .nilFunc, .int .i64 0] 77) = X at *
  generalize w5.heap.size = pb at *
 case' hb1 =>
  refine wpOp_val _ _ rfl (by kernel_rfl) (exec_allocWk _ _ _ rfl) ?_
  have hb6 : Below Wd.heap.size Wd (Wd.alloc (.cells #[.int .u64 0, .int .u64 0, .int .u64 0, .int .i64 0, .nilFunc, .nilFunc, .int .i64 0] 77)) := (Below.refl _ _).alloc (Nat.le_refl _) _
  have hn6 := heap_alloc_new Wd (.cells #[.int .u64 0, .int .u64 0, .int .u64 0, .int .i64 0, .nilFunc, .nilFunc, .int .i64 0] 77)
  have hS6 := blko hSd hb6
  have hF6 := first_any (.slice aw word.length cw) word k (head : Int) _ hl hkn (hVd.below hb6)
  refine ⟨hS6, ?_⟩
  try simp only [Act.put, List.getElem_toArray, List.getElem_cons_succ, List.getElem_cons_zero, List.setIfInBounds_toArray, List.set_cons_zero, List.set_cons_succ]
  refine wpAnyH_one 1 (by kernel_rfl) ?_
  refine wpOp_call 40 #[fzV (.slice aw word.length cw) k head] rfl (by kernel_rfl) (rbx_call1 _ _ _ _ _ _ rfl _ (by kernel_rfl) (Tryd.call40 _ _)) ?_
  refine hF6.mono ?_
  rintro e X ⟨rfl, hb5⟩
  have hnX := blko hn6 hb5
  have hSX := blko hS6 hb5
  have hdX : Below Wd.heap.size Wd X := hb6.trans (hb5.mono hb6.size)
  have hpw : w.heap.size < Wd.heap.size := hwd
  have hpf : fb ≠ Wd.heap.size := by have := (Array.getElem?_eq_some_iff.1 hSd).1; omega
  refine ⟨hSX, ?_⟩
  try simp only [Act.put, List.getElem_toArray, List.getElem_cons_succ, List.getElem_cons_zero, List.setIfInBounds_toArray, List.set_cons_zero, List.set_cons_succ]
  refine wpAnyH_take (i := 6) (v := .agg #[.int .u64 ((firstI word.length k).1 : Int), .int .u64 ((firstI word.length k).2.1 : Int), .int .u64 ((firstI word.length k).2.2.1 : Int), .int .i64 0, folV (.slice aw word.length cw) k head, finV (.slice aw word.length cw) k head, .int .i64 9223372036854775807]) rfl (by kernel_rfl) (by kernel_rfl) (by kernel_rfl) (fun _ _ _ h => h) (Or.inl ⟨by kernel_rfl, fun W hW => exec_buildWk W _ _ _ _ _ _ rfl ((firstI word.length k).1 : Int) ((firstI word.length k).2.1 : Int) ((firstI word.length k).2.2.1 : Int) 0 9223372036854775807 41 42 (fzV (.slice aw word.length cw) k head) (fzV (.slice aw word.length cw) k head) (by kernel_rfl) (by kernel_rfl) (by kernel_rfl) (by kernel_rfl)⟩) hSX ?_
  clear hb6 hn6 hS6 hF6 hb5
  obtain ⟨pb, hpb⟩ : ∃ pb, pb = Wd.heap.size := ⟨_, rfl⟩
  have hdp : Wd.heap.size ≤ pb := by omega
  rw [← hpb] at hnX hpw hpf
  simp only [← hpb]
  clear hpb
 all_goals
  have hsv := seven_set hnX (.int .u64 ((firstI word.length k).1 : Int)) (.int .u64 ((firstI word.length k).2.1 : Int)) (.int .u64 ((firstI word.length k).2.2.1 : Int)) (.int .i64 0) (folV (.slice aw word.length cw) k head) (finV (.slice aw word.length cw) k head) (.int .i64 9223372036854775807)
  have hne7 : ∀ b, b ≠ pb → _ := fun b (hb : b ≠ pb) => seven_other X pb (.int .u64 ((firstI word.length k).1 : Int)) (.int .u64 ((firstI word.length k).2.1 : Int)) (.int .u64 ((firstI word.length k).2.2.1 : Int)) (.int .i64 0) (folV (.slice aw word.length cw) k head) (finV (.slice aw word.length cw) k head) (.int .i64 9223372036854775807) b hb
  try simp only [Act.put, List.getElem_toArray, List.getElem_cons_succ, List.getElem_cons_zero, List.setIfInBounds_toArray, List.set_cons_zero, List.set_cons_succ]
  refine wpAnyH_one 8 (by kernel_rfl) ?_
  refine wpOp_skip _ rfl (by kernel_rfl) (exec_storeWk _ _ _ _ _ rfl pb ((firstI word.length k).1 : Int) ((firstI word.length k).2.1 : Int) ((firstI word.length k).2.2.1 : Int) 0 9223372036854775807 41 42 (fzV (.slice aw word.length cw) k head) (fzV (.slice aw word.length cw) k head) _ _ _ _ _ _ _ (by kernel_rfl) (by kernel_rfl) hnX) ?_
  refine ⟨(hne7 fb hpf).trans hSX, ?_⟩
  try simp only [Act.put, List.getElem_toArray, List.getElem_cons_succ, List.getElem_cons_zero, List.setIfInBounds_toArray, List.set_cons_zero, List.set_cons_succ]
  refine wpAnyH_done (by kernel_rfl) ?_ _
  have hd7 : Below Wd.heap.size Wd (((((((X.setCell ⟨pb, 0, none⟩ (.int .u64 ((firstI word.length k).1 : Int))).setCell ⟨pb, 1, none⟩ (.int .u64 ((firstI word.length k).2.1 : Int))).setCell ⟨pb, 2, none⟩ (.int .u64 ((firstI word.length k).2.2.1 : Int))).setCell ⟨pb, 3, none⟩ (.int .i64 0)).setCell ⟨pb, 4, none⟩ (folV (.slice aw word.length cw) k head)).setCell ⟨pb, 5, none⟩ (finV (.slice aw word.length cw) k head)).setCell ⟨pb, 6, none⟩ (.int .i64 9223372036854775807)) := ((((((hdX.setCell (p := ⟨pb, 0, none⟩) hdp _).setCell (p := ⟨pb, 1, none⟩) hdp _).setCell (p := ⟨pb, 2, none⟩) hdp _).setCell (p := ⟨pb, 3, none⟩) hdp _).setCell (p := ⟨pb, 4, none⟩) hdp _).setCell (p := ⟨pb, 5, none⟩) hdp _).setCell (p := ⟨pb, 6, none⟩) hdp _
  generalize ((((((X.setCell ⟨pb, 0, none⟩ (.int .u64 ((firstI word.length k).1 : Int))).setCell ⟨pb, 1, none⟩ (.int .u64 ((firstI word.length k).2.1 : Int))).setCell ⟨pb, 2, none⟩ (.int .u64 ((firstI word.length k).2.2.1 : Int))).setCell ⟨pb, 3, none⟩ (.int .i64 0)).setCell ⟨pb, 4, none⟩ (folV (.slice aw word.length cw) k head)).setCell ⟨pb, 5, none⟩ (finV (.slice aw word.length cw) k head)).setCell ⟨pb, 6, none⟩ (.int .i64 9223372036854775807) = W7 at *
  have HB7 := hidd (hBd.trans (hd7.mono hBd.size))
  have HR7 := hidd (blko hRd hd7)
  have HV7 := hidd (hVd.below hd7)
  clear hd7 hne7 hnX hSX hdX hdp hpf hFst hRd hBd hVd hSd hbd HV3 HR3 HB3 hn3 hfr hwd
  go_upto_region 8 with fail
  refine wp_region_held (S := fun u => u.heap[pb]? = some (.cells #[.int .u64 ((firstI word.length k).1 : Int), .int .u64 ((firstI word.length k).2.1 : Int), .int .u64 ((firstI word.length k).2.2.1 : Int), .int .i64 0, folV (.slice aw word.length cw) k head, finV (.slice aw word.length cw) k head, .int .i64 9223372036854775807] 77)) (by kernel_rfl) ?_
  have hbe : Below W7.heap.size W7 ({ heap := W7.heap, tape := W7.tape, drawn := W7.drawn + 1, os := W7.os, output := W7.output } : World) := (Below.refl _ _).drew
  generalize ({ heap := W7.heap, tape := W7.tape, drawn := W7.drawn + 1, os := W7.os, output := W7.output } : World) = We at *
  have hSe : (fun u => u.heap[pb]? = some (.cells #[.int .u64 ((firstI word.length k).1 : Int), .int .u64 ((firstI word.length k).2.1 : Int), .int .u64 ((firstI word.length k).2.2.1 : Int), .int .i64 0, folV (.slice aw word.length cw) k head, finV (.slice aw word.length cw) k head, .int .i64 9223372036854775807] 77)) We := blko hsv hbe
  have hVe := HV7.out.below hbe
  have hBe := HB7.out.trans (hbe.mono HB7.out.size)
  have hRe := blko HR7.out hbe
  have hSp := spelled_any (.slice aw word.length cw) word We (by omega) HBd.out hVe
  try simp only [Act.put, List.getElem_toArray, List.getElem_cons_succ, List.getElem_cons_zero, List.setIfInBounds_toArray, List.set_cons_zero, List.set_cons_succ]
  refine wpAnyH_take (i := 0) (v := .agg #[.int .u64 ((firstI word.length k).1 : Int), .int .u64 ((firstI word.length k).2.1 : Int), .int .u64 ((firstI word.length k).2.2.1 : Int), .int .i64 0, folV (.slice aw word.length cw) k head, finV (.slice aw word.length cw) k head, .int .i64 9223372036854775807]) rfl (by kernel_rfl) (by kernel_rfl) (by kernel_rfl) (fun _ _ _ h => h) (Or.inl ⟨by kernel_rfl, fun W hW => exec_loadWk W _ _ _ rfl pb ((firstI word.length k).1 : Int) ((firstI word.length k).2.1 : Int) ((firstI word.length k).2.2.1 : Int) 0 9223372036854775807 41 42 (fzV (.slice aw word.length cw) k head) (fzV (.slice aw word.length cw) k head) (by kernel_rfl) (blkc hW 0) (blkc hW 1) (blkc hW 2) (blkc hW 3) (blkc hW 4) (blkc hW 5) (blkc hW 6)⟩) hSe ?_
  try simp only [Act.put, List.getElem_toArray, List.getElem_cons_succ, List.getElem_cons_zero, List.setIfInBounds_toArray, List.set_cons_zero, List.set_cons_succ]
  refine tkX 1 (v := .slice aw word.length cw) (hS := hSe) (h := ?_)
  try simp only [Act.put, List.getElem_toArray, List.getElem_cons_succ, List.getElem_cons_zero, List.setIfInBounds_toArray, List.set_cons_zero, List.set_cons_succ]
  refine wpAnyH_one 2 (by kernel_rfl) ?_
  refine wpOp_call 44 #[.slice aw word.length cw] rfl (by kernel_rfl) (rbx_call1 _ _ _ _ _ _ rfl _ (by kernel_rfl) (Tryd.call44 _ _)) ?_
  refine hSp.mono ?_
  rintro e w8 ⟨vr, vy, vs, vc, rfl, q1, q2, q3, q4, hb8⟩
  have hS8 : (fun u => u.heap[pb]? = some (.cells #[.int .u64 ((firstI word.length k).1 : Int), .int .u64 ((firstI word.length k).2.1 : Int), .int .u64 ((firstI word.length k).2.2.1 : Int), .int .i64 0, folV (.slice aw word.length cw) k head, finV (.slice aw word.length cw) k head, .int .i64 9223372036854775807] 77)) w8 := blko hSe hb8
  have hV8 := hVe.below hb8
  have hB8 := hBe.trans (hb8.mono hBe.size)
  have hR8 := blko hRe hb8
  have hll := lettersZ_len word
  have hLe : Calls Tryd.prog 43 #[.agg #[.int .u64 ((firstI word.length k).1 : Int), .int .u64 ((firstI word.length k).2.1 : Int), .int .u64 ((firstI word.length k).2.2.1 : Int), .int .i64 0, folV (.slice aw word.length cw) k head, finV (.slice aw word.length cw) k head, .int .i64 9223372036854775807], .agg #[vr, vy, vs, vc]] w8 (LnPost word (lettersZ word) k head w8) := least_near (.slice aw word.length cw) vr vy vs vc word (lettersZ word) k head w8 hl (by omega) hkn hhn (fun z hz => (HBd.out z hz).1) hV8 q1 q2 q3 q4
  refine ⟨hS8, ?_⟩
  try simp only [Act.put, List.getElem_toArray, List.getElem_cons_succ, List.getElem_cons_zero, List.setIfInBounds_toArray, List.set_cons_zero, List.set_cons_succ]
  refine wpAnyH_one 3 (by kernel_rfl) ?_
  refine wpOp_call 43 #[.agg #[.int .u64 ((firstI word.length k).1 : Int), .int .u64 ((firstI word.length k).2.1 : Int), .int .u64 ((firstI word.length k).2.2.1 : Int), .int .i64 0, folV (.slice aw word.length cw) k head, finV (.slice aw word.length cw) k head, .int .i64 9223372036854775807], .agg #[vr, vy, vs, vc]] rfl (by kernel_rfl) (rbx_call2 _ _ _ _ _ _ _ _ rfl _ _ (by kernel_rfl) (by kernel_rfl) (Tryd.call43 _ _)) ?_
  refine hLe.mono ?_
  rintro e w9 hp9
  obtain ⟨ad9, n9, c9, code9, rfl, hb9, hfin⟩ := ln_move (w := w) hB8 hR8 hp9
  have hS9 : (fun u => u.heap[pb]? = some (.cells #[.int .u64 ((firstI word.length k).1 : Int), .int .u64 ((firstI word.length k).2.1 : Int), .int .u64 ((firstI word.length k).2.2.1 : Int), .int .i64 0, folV (.slice aw word.length cw) k head, finV (.slice aw word.length cw) k head, .int .i64 9223372036854775807] 77)) w9 := blko hS8 hb9
  have hR9 := blko hR8 hb9
  have hBw9 := hB8.trans (hb9.mono hB8.size)
  have HEn : Hid (LnPost word (lettersZ word) k head w (.returned (.tuple #[.agg #[.slice ad9 n9 c9], .int .i64 code9])) (w9.setCell ⟨w.heap.size, 0, none⟩ (.slice ad9 n9 c9)) ∧ (w9.setCell ⟨w.heap.size, 0, none⟩ (.slice ad9 n9 c9)).cell? ⟨w.heap.size, 0, none⟩ = some (.slice ad9 n9 c9)) := by
   refine ⟨hfin _ (fun b hb => heap_set_other _ _ _ _ _ hb) (hBw9.setCell (p := ⟨w.heap.size, 0, none⟩) (Nat.le_refl _) _), ?_⟩
   rw [blkc (blk_setk hR9 0 _) 0]; simp
  refine ⟨hS9, ?_⟩
  try simp only [Act.put, List.getElem_toArray, List.getElem_cons_succ, List.getElem_cons_zero, List.setIfInBounds_toArray, List.set_cons_zero, List.set_cons_succ]
  refine wpAnyH_take (i := 4) (v := .agg #[.slice ad9 n9 c9]) rfl (by kernel_rfl) (by kernel_rfl) (by kernel_rfl) (fun _ _ _ h => h) (Or.inl ⟨by kernel_rfl, fun W hW => exec_ext W _ _ _ 0 rfl (.agg #[.slice ad9 n9 c9]) (.int .i64 code9) _ (by kernel_rfl) rfl⟩) hS9 ?_
  try simp only [Act.put, List.getElem_toArray, List.getElem_cons_succ, List.getElem_cons_zero, List.setIfInBounds_toArray, List.set_cons_zero, List.set_cons_succ]
  refine wpAnyH_take (i := 5) (v := .int .i64 code9) rfl (by kernel_rfl) (by kernel_rfl) (by kernel_rfl) (fun _ _ _ h => h) (Or.inl ⟨by kernel_rfl, fun W hW => exec_ext W _ _ _ 1 rfl (.agg #[.slice ad9 n9 c9]) (.int .i64 code9) _ (by kernel_rfl) rfl⟩) hS9 ?_
  try simp only [Act.put, List.getElem_toArray, List.getElem_cons_succ, List.getElem_cons_zero, List.setIfInBounds_toArray, List.set_cons_zero, List.set_cons_succ]
  refine wpAnyH_one 6 (by kernel_rfl) ?_
  refine wpOp_skip _ rfl (by kernel_rfl) (exec_storeDfa _ _ _ _ _ rfl w.heap.size ad9 n9 c9 (.slice none 0 0) (by kernel_rfl) (by kernel_rfl) (blkc hR9 0) (blkf hR9 0)) ?_
  have hS10 : (fun u => u.heap[pb]? = some (.cells #[.int .u64 ((firstI word.length k).1 : Int), .int .u64 ((firstI word.length k).2.1 : Int), .int .u64 ((firstI word.length k).2.2.1 : Int), .int .i64 0, folV (.slice aw word.length cw) k head, finV (.slice aw word.length cw) k head, .int .i64 9223372036854775807] 77)) (w9.setCell ⟨w.heap.size, 0, none⟩ (.slice ad9 n9 c9)) := (heap_set_other _ _ _ _ _ (by omega)).trans hS9
  refine ⟨hS10, ?_⟩
  try simp only [Act.put, List.getElem_toArray, List.getElem_cons_succ, List.getElem_cons_zero, List.setIfInBounds_toArray, List.set_cons_zero, List.set_cons_succ]
  refine tkX 7 (v := .int .i64 code9) (hS := hS10) (h := ?_)
  try simp only [Act.put, List.getElem_toArray, List.getElem_cons_succ, List.getElem_cons_zero, List.setIfInBounds_toArray, List.set_cons_zero, List.set_cons_succ]
  refine wpAnyH_done (by kernel_rfl) ?_ _
  clear hS10 hS9 hR9 hBw9 hfin hb9 hLe hS8 hV8 hB8 hR8 hSp hRe hBe hVe hSe hbe q1 q2 q3 q4 hb8
  go_wp2_with fail
  obtain ⟨en1, en2⟩ := HEn.out
  refine bodyPost_ret (v := .tuple #[.agg #[.slice ad9 n9 c9], .int .i64 code9]) (by simp [results, Tryd.results9, go_sem, en2]) rfl ?_
  exact en1
theorem implFuzzy_any (s : ByteArray) (k head : Int) (w : World) (hs : s.size ≤ 1048576) (hT : Tabs w) : Calls Tryd.prog 9 #[.string s, .int .i64 k, .int .i64 head] w (FiAll s k head w) := by
 by_cases hc : fzCode s k head = 0
 ·exact (implFuzzy_good s k head w hs hT hc).mono fun e w' h => Or.inr ⟨hc, h⟩
 ·exact (implFuzzy_bad s k head w hs hT hc).mono fun e w' h => Or.inl ⟨hc, h.1, h.2⟩
end Go.Proofs.YtoinajfliogcdaaDoor
