import Derived.Test.YtoinajfliogcdaaDoorNearJ37
import Derived.Test.YtoinajfliogcdaaDoorNearJ15
import Derived.Test.YtoinajfliogcdaaDoorNearJ33
import Derived.Sort.OwnSortedInts
import Derived.Shelf.Slices.In.SortNone
namespace Go.Proofs.YtoinajfliogcdaaDoor
open Go Go.RowKit Go.Sort
set_option linter.unusedVariables false
set_option maxRecDepth 100000
set_option linter.unusedSimpArgs false

theorem grown_reflI (w : World) (o : Option Nat) : w.grownBy w o := ⟨rfl, rfl, rfl, Nat.le_refl _, fun _ _ _ => rfl⟩
theorem own_cutI {w : World} {base e n g cap i : Nat} {xs : List Value} (h : w.ownsRow base e 1 (.slice (some ⟨g, 0, none⟩) n cap) n xs) (hi : i ≤ n) : w.ownsRow base e 1 (.slice (some ⟨g, 0, none⟩) i cap) i (xs.take i) := by
 refine ⟨by rw [List.length_take, h.1]; omega, ?_⟩
 rcases h.2 with ⟨h', _⟩ | ⟨g', cap', cur, h1, h2, h3, h4, h5, h6, h7⟩
 ·cases h'
 ·simp only [Value.slice.injEq, Option.some.injEq, Addr.mk.injEq, and_true, true_and] at h1
  obtain ⟨rfl, rfl⟩ := h1
  refine Or.inr ⟨g, cap, cur, rfl, h2, h3, by omega, h5, h6, ?_⟩
  rw [← h7, List.take_take]
  congr 1
  omega
def srtZ (zs : List Int) : List Int := zs.mergeSort fun x y => decide (x ≤ y)
theorem srtZ_len (zs : List Int) : (srtZ zs).length = zs.length := List.length_mergeSort _
theorem sortRowI_any (F : List Int) (base : Nat) (v : Value) (w : World) (hl : F.length ≤ 1048576) (hown : w.ownsRow base 3 1 v F.length (zI F)) :
  Calls Tryd.prog 123 #[v] w fun e w' => e = .returned (.tuple #[]) ∧ w'.ownsRow base 3 1 v F.length (zI (srtZ F)) ∧ w.grownBy w' v.ownBlock := by
 have hsl : (srtZ F).length = F.length := srtZ_len F
 rcases hown.2 with ⟨rfl, h0⟩ | ⟨g, cap, cur, rfl, hb, hg, hc1, hc2, hc3, hc4⟩
 ·have hF : F = [] := List.length_eq_zero_iff.1 h0
  subst hF
  refine (Any.slices_Sort_int_none Tryd.laysSortI none 0 w).mono ?_
  rintro e w' ⟨rfl, hw⟩
  obtain rfl := hw.symm
  have e0 : srtZ ([] : List Int) = [] := by simp [srtZ]
  exact ⟨rfl, by rw [e0]; exact hown, grown_reflI _ _⟩
 ·have hH : Holds (Value.int .i64) w g 0 F.toArray := holds_of_blockI hg (by rw [Nat.mul_one] at hc4; exact hc4)
  refine (Any.slices_Sort_int Tryd.laysSortI g 0 cap F w hH (Array.getElem?_eq_some_iff.1 hg).1 (by omega)).mono ?_
  rintro e w' ⟨rfl, n, os, rfl⟩
  exact ⟨rfl, ownsRow_sortedI (ss := F) (ts := srtZ F) hsl hb hg hc1 hc2 hc3, grownBy_sortedI _⟩
theorem compRowI_any (S : List Int) (base : Nat) (v : Value) (w : World) (hl : S.length ≤ 1048576) (hown : w.ownsRow base 3 1 v S.length (zI S)) :
  Calls Tryd.prog 88 #[v] w fun e w' => ∃ v', e = .returned v' ∧ w'.ownsRow base 3 1 v' (Lib.compact S).length (zI (Lib.compact S)) ∧ w.grownBy w' v.ownBlock := by
 rcases hown.2 with ⟨rfl, h0⟩ | ⟨g, cap, cur, rfl, hb, hg, hc1, hc2, hc3, hc4⟩
 ·have hF : S = [] := List.length_eq_zero_iff.1 h0
  subst hF
  refine (Any.slices_Compact_int_empty Tryd.laysCompI none 0 w).mono ?_
  rintro e w' ⟨rfl, hw⟩
  obtain rfl := hw.symm
  exact ⟨_, rfl, hown, grown_reflI _ _⟩
 ·have hH : Holds (Value.int .i64) w g 0 S.toArray := holds_of_blockI hg (by rw [Nat.mul_one] at hc4; exact hc4)
  refine (Any.slices_Compact_int Tryd.laysCompI g 0 cap S w hH (by omega) hc1).mono ?_
  rintro e w' ⟨rfl, q, rfl⟩
  have hcl := compact_lenZ S
  have h1 := ownsRow_sortedI (n := q) (os := #[]) (ss := S) (ts := Lib.compact S ++ List.replicate (S.length - (Lib.compact S).length) 0) (by rw [List.length_append, List.length_replicate]; omega) hb hg hc1 hc2 hc3
  have h2 := grownBy_sortedI (w := w) (g := g) (n := q) (os := #[]) (Lib.compact S ++ List.replicate (S.length - (Lib.compact S).length) 0).toArray
  rw [grow_empty] at h1 h2
  have h3 := own_cutI h1 hcl
  rw [List.map_append, List.take_left' (by rw [List.length_map])] at h3
  exact ⟨_, rfl, h3, h2⟩
theorem grown_below {w0 w w' : World} {base : Nat} {v : Value} {n : Nat} {xs : List Value} {e : TypeId} (hb : Below w0.heap.size w0 w) (ho : w.ownsRow base e 1 v n xs) (hbase : w0.heap.size ≤ base) (hg : w.grownBy w' v.ownBlock) : Below w0.heap.size w0 w' :=
 ⟨hg.os.trans hb.os, hg.tape.trans hb.tape, hg.output.trans hb.output, Nat.le_trans hb.size hg.size, fun b hb' => (hg.block b (Nat.lt_of_lt_of_le hb' hb.size) (fun e => by have := (own_blk ho e.symm).1; omega)).trans (hb.block b hb')⟩
theorem atZ_hold {w : World} {v : Value} {zs : List Int} (h : HoldI w v zs) : ∃ ad cap, v = .slice ad zs.length cap ∧ ∀ i, i < zs.length → ∃ g off, ad = some ⟨g, off, none⟩ ∧ w.cell? ⟨g, off + i, none⟩ = some (.int .i64 (atZ zs i)) := by
 obtain ⟨ad, cap, rfl, h1⟩ := h
 refine ⟨ad, cap, rfl, fun i hi => ?_⟩
 rcases h1 with h1 | ⟨g, off, h2, _, h3⟩
 ·rw [h1] at hi; simp at hi
 ·exact ⟨g, off, h2, h3 i hi⟩
theorem collect_any (Bs cap : Nat) (ad : Option Addr) (zs : List Int) (w : World) (hN : zs.length ≤ 1048576) (hb : w.cell? ⟨Bs, 0, none⟩ = some (.slice ad zs.length cap)) (hz : ∀ i, i < zs.length → ∃ g off, ad = some ⟨g, off, none⟩ ∧ w.cell? ⟨g, off + i, none⟩ = some (.int .i64 (atZ zs i))) :
  Calls Tryd.prog 122 #[.func (.func 124) #[] #[.pointer (some ⟨Bs, 0, none⟩)]] w fun e w' => ∃ v, e = .returned v ∧ w'.ownsRow w.heap.size 3 1 v zs.length (zI zs) ∧ Below w.heap.size w w' := by
 have HC := hidd (appendSeq_any Bs cap ad zs w hN hb hz)
 clear hb hz
 go_enter Tryd.func122, Tryd.ntmps122
 go_wp2_with fail
 refine HC.out.mono ?_
 rintro e w1 ⟨v, rfl, h1, h2⟩
 obtain ⟨ad9, cp9, rfl⟩ := own_sl1 h1
 have H1 := hidd h1
 have H2 := hidd h2
 clear h1 h2
 go_wp2_with fail
 go_ret
 exact ⟨_, rfl, H1.out, H2.out⟩
theorem sorted_any (Bs cap : Nat) (ad : Option Addr) (zs : List Int) (w : World) (hN : zs.length ≤ 1048576) (hb : w.cell? ⟨Bs, 0, none⟩ = some (.slice ad zs.length cap)) (hz : ∀ i, i < zs.length → ∃ g off, ad = some ⟨g, off, none⟩ ∧ w.cell? ⟨g, off + i, none⟩ = some (.int .i64 (atZ zs i))) :
  Calls Tryd.prog 85 #[.func (.func 124) #[] #[.pointer (some ⟨Bs, 0, none⟩)]] w fun e w' => ∃ v, e = .returned v ∧ w'.ownsRow w.heap.size 3 1 v zs.length (zI (srtZ zs)) ∧ Below w.heap.size w w' := by
 have HC := hidd (collect_any Bs cap ad zs w hN hb hz)
 clear hb hz
 go_enter Tryd.func85, Tryd.ntmps85
 go_wp2_with fail
 refine HC.out.mono ?_
 rintro e w1 ⟨v, rfl, h1, h2⟩
 have HS := hidd (sortRowI_any zs w.heap.size v w1 hN h1)
 obtain ⟨ad9, cp9, rfl⟩ := own_sl1 h1
 have H1 := hidd h1
 have H2 := hidd h2
 clear h1 h2 HC
 go_wp2_with fail
 refine HS.out.mono ?_
 rintro e w2 ⟨rfl, h3, h4⟩
 have H3 := hidd h3
 have H4 := hidd (grown_below H2.out H1.out (Nat.le_refl _) h4)
 clear h3 h4
 go_wp2_with fail
 go_ret
 exact ⟨_, rfl, H3.out, H4.out⟩
theorem neg1_any (x : Int) (w : World) (hx : 0 ≤ x) : Calls Tryd.prog 87 #[.int .i64 x] w fun e w' => e = .returned (.bool false) ∧ w' = w := by
 have hd : decide (x < 0) = false := decide_eq_false (by omega)
 go_enter Tryd.func87, Tryd.ntmps87
 go_wp2
 go_ret
 exact ⟨rfl, rfl⟩
set_option maxHeartbeats 2000000 in
theorem indexNone_any (ad : Option Addr) (cap : Nat) (zs : List Int) (w : World) (hN : zs.length ≤ 1048576) (hz : ∀ i, i < zs.length → ∃ g off, ad = some ⟨g, off, none⟩ ∧ w.cell? ⟨g, off + i, none⟩ = some (.int .i64 (atZ zs i))) (hp : ∀ i, i < zs.length → 0 ≤ atZ zs i) :
  Calls Tryd.prog 121 #[.slice ad zs.length cap, .func (.func 87) #[] #[]] w fun e w' => e = .returned (.int .i64 (-1)) ∧ Below w.heap.size w w' := by
 have HZ := hidd hz
 have HP := hidd hp
 clear hz hp
 go_enter Tryd.func121, Tryd.ntmps121
 go_wp2_with fail
 go_loopw [8] (fun iv wr => ∃ i : Nat, i ≤ zs.length ∧ iv = .int .i64 (i : Int) ∧ Below w.heap.size w wr) (fun iv _ => zs.length - (intOf iv).toNat)
 case atStart => exact ⟨0, Nat.zero_le _, rfl, Below.refl _ _⟩
 case round =>
  obtain ⟨i, hi, rfl, hb⟩ := hrel
  have HB := hidd hb
  clear hb
  by_cases hlt : i < zs.length
  ·have hltz : (i : Int) < (zs.length : Int) := by omega
   obtain ⟨g, off, rfl, x0⟩ := HZ.out i hlt
   have x1 := (HB.out.cell (p := ⟨g, off + i, none⟩) (cell_lt x0)).trans x0
   have hp := HP.out i hlt
   clear x0
   generalize atZ zs i = x at *
   go_wp2_with fail
   refine (neg1_any x _ hp).mono ?_
   rintro e w2 ⟨rfl, rfl⟩
   go_wp2_with fail
   go_roundw
   case rel => exact ⟨i + 1, by omega, by go_num, HB.out⟩
   case measure => simp [intOf]; omega
  ·have hltz : ¬ (i : Int) < (zs.length : Int) := by omega
   go_wp2_with fail
   go_ret
   exact ⟨rfl, HB.out⟩
theorem deleteNone_any (ad : Option Addr) (cap : Nat) (zs : List Int) (w : World) (hN : zs.length ≤ 1048576) (hz : ∀ i, i < zs.length → ∃ g off, ad = some ⟨g, off, none⟩ ∧ w.cell? ⟨g, off + i, none⟩ = some (.int .i64 (atZ zs i))) (hp : ∀ i, i < zs.length → 0 ≤ atZ zs i) :
  Calls Tryd.prog 84 #[.slice ad zs.length cap, .func (.func 87) #[] #[]] w fun e w' => e = .returned (.slice ad zs.length cap) ∧ Below w.heap.size w w' := by
 have HC := hidd (indexNone_any ad cap zs w hN hz hp)
 clear hz hp
 go_enter Tryd.func84, Tryd.ntmps84
 go_wp2_with fail
 refine HC.out.mono ?_
 rintro e w1 ⟨rfl, h1⟩
 have H1 := hidd h1
 clear h1
 go_wp2_with fail
 go_ret
 exact ⟨rfl, H1.out⟩
def SpPost (w : World) (zs : List Int) (e : Ending) (w' : World) : Prop :=
 ∃ vr vy vs vc, e = .returned (.agg #[vr, vy, vs, vc]) ∧ HoldI w' vr (lettersZ zs) ∧ HoldI w' vy (nat2 (List.range (lettersZ zs).length)) ∧ HoldI w' vs (lettersZ zs ++ [-1]) ∧ HoldI w' vc (cntA (lettersZ zs).length) ∧ Below w.heap.size w w'
theorem srt_at {zs : List Int} (hp : ∀ x ∈ zs, 0 ≤ x) (i : Nat) (hi : i < zs.length) : 0 ≤ atZ (srtZ zs) i := by
 unfold atZ
 have hl : i < (srtZ zs).length := by rw [srtZ_len]; exact hi
 rw [List.getD_eq_getElem?_getD, List.getElem?_eq_getElem hl]
 exact hp _ ((List.mergeSort_perm zs _).mem_iff.1 (List.getElem_mem hl))
theorem al_sub {w : World} {v : Value} {ls : List Int} {e : Ending} {w' : World} (h : AlPost w v ls e w') : ∃ vy vs vc, e = .returned (.agg #[v, vy, vs, vc]) ∧ HoldI w' vy (nat2 (List.range ls.length)) ∧ HoldI w' vs (ls ++ [-1]) ∧ HoldI w' vc (cntA ls.length) ∧ Below w.heap.size w w' := h
theorem HoldI.off {W W' : World} {v : Value} {zs : List Int} (b : Nat) (h : HoldI W v zs) (hb : ∀ j x, W.cell? ⟨b, j, none⟩ ≠ some (.int .i64 x)) (hk : ∀ g, g ≠ b → W'.heap[g]? = W.heap[g]?) (hs : W.heap.size ≤ W'.heap.size) : HoldI W' v zs := by
 obtain ⟨ad, cap, e, h1⟩ := h
 refine ⟨ad, cap, e, ?_⟩
 rcases h1 with h1 | ⟨g, off, h2, h3, h4⟩
 ·exact Or.inl h1
 ·refine Or.inr ⟨g, off, h2, Nat.lt_of_lt_of_le h3 hs, fun t ht => ?_⟩
  have h5 := h4 t ht
  have hg : g ≠ b := fun e => by subst e; exact hb _ _ h5
  rw [World.cell?_of_block (hk g hg)]
  exact h5
theorem no_int {W : World} {b : Nat} {t : TypeId} (h : W.heap[b]? = some (.cells #[.slice none 0 0, .slice none 0 0, .slice none 0 0, .slice none 0 0] t)) : ∀ j x, W.cell? ⟨b, j, none⟩ ≠ some (.int .i64 x) := by
 intro j x e
 rw [blkc h j] at e
 have : j < 4 := by
  have := (Array.getElem?_eq_some_iff.1 e).1
  simpa using this
 rcases j with _ | _ | _ | _ | j
 ·simp at e
 ·simp at e
 ·simp at e
 ·simp at e
 ·omega
set_option maxHeartbeats 2000000 in
theorem spelled_any (v : Value) (zs : List Int) (w : World) (hN : zs.length ≤ 1000) (hp : ∀ x ∈ zs, 0 ≤ x ∧ x ≤ 1114111) (hv : HoldI w v zs) :
  Calls Tryd.prog 44 #[v] w (SpPost w zs) := by
 obtain ⟨ad, cap, rfl, hz⟩ := atZ_hold hv
 have HZ := hidd hz
 have HP := hidd hp
 have HSL := hidd (srtZ_len zs)
 have hsl : (srtZ zs).length ≤ 1000 := by rw [HSL.out]; exact hN
 clear hz hv hp
 go_enter Tryd.func44, Tryd.ntmps44
 go_wp2_with fail
 have hb0 : Below w.heap.size w (w.alloc (.cells #[.slice none 0 0, .slice none 0 0, .slice none 0 0, .slice none 0 0] 80)) := (Below.refl _ _).alloc (Nat.le_refl _) _
 have hr0 : (w.alloc (.cells #[.slice none 0 0, .slice none 0 0, .slice none 0 0, .slice none 0 0] 80)).heap[w.heap.size]? = some (.cells #[.slice none 0 0, .slice none 0 0, .slice none 0 0, .slice none 0 0] 80) := heap_alloc_new _ _
 generalize w.alloc (.cells #[.slice none 0 0, .slice none 0 0, .slice none 0 0, .slice none 0 0] 80) = W0 at *
 refine (valsF_any ad zs.length cap W0).mono ?_
 rintro e w1 ⟨rfl, hw1⟩
 have hb1 : Below W0.heap.size W0 w1 := by rw [hw1]; exact (Below.refl _ _).alloc (Nat.le_refl _) _
 have hn1 : w1.heap[W0.heap.size]? = some (.cells #[.slice ad zs.length cap] 30) := by rw [hw1]; exact heap_alloc_new _ _
 have hbw1 : Below w.heap.size w w1 := hb0.trans (hb1.mono hb0.size)
 have HS := hidd (sorted_any W0.heap.size cap ad zs w1 (by omega) (blkc hn1 0) (fun i hi => by
  obtain ⟨g, off, e1, e2⟩ := HZ.out i hi
  exact ⟨g, off, e1, (hbw1.cell (p := ⟨g, off + i, none⟩) (cell_lt e2)).trans e2⟩))
 have hr1 := blko hr0 hb1
 clear hw1 hn1 HZ hr0 hb0 hb1
 go_wp2_with fail
 refine HS.out.mono ?_
 rintro e w2 ⟨v2, rfl, h2, hb2⟩
 have hbw2 : Below w.heap.size w w2 := hbw1.trans (hb2.mono hbw1.size)
 have hr2 := blko hr1 hb2
 have h2' : w2.ownsRow w1.heap.size 3 1 v2 (srtZ zs).length (zI (srtZ zs)) := by rw [HSL.out]; exact h2
 obtain ⟨ad2, cp2, rfl, hz2⟩ := atZ_hold (HoldI.own h2')
 have HD := hidd (deleteNone_any ad2 cp2 (srtZ zs) w2 (by omega) hz2 (fun i hi => srt_at (fun x hx => (HP.out x hx).1) i (by have := HSL.out; omega)))
 have H2 := hidd h2'
 have hs1 := hbw1.size
 clear hz2 h2 h2' HS hb2 hr1 hbw1
 go_wp2_with fail
 refine HD.out.mono ?_
 rintro e w3 ⟨rfl, hb3⟩
 have hbw3 : Below w.heap.size w w3 := hbw2.trans (hb3.mono hbw2.size)
 have hr3 := blko hr2 hb3
 have H3 := hidd (own_below H2.out hb3)
 have HC := hidd (compRowI_any (srtZ zs) w1.heap.size _ w3 (by omega) H3.out)
 clear HD H2 hb3 hr2 hbw2
 go_wp2_with fail
 refine HC.out.mono ?_
 rintro e w4 ⟨v4, rfl, h4, hg4⟩
 have hbw4 : Below w.heap.size w w4 := grown_below hbw3 H3.out hs1 hg4
 have hr4 : w4.heap[w.heap.size]? = some (.cells #[.slice none 0 0, .slice none 0 0, .slice none 0 0, .slice none 0 0] 80) := by
  rw [hg4.block w.heap.size (Array.getElem?_eq_some_iff.1 hr3).1 (fun e => by
   obtain ⟨_, cur, h5⟩ := own_blk H3.out e.symm
   exact blk_ne hr3 h5 (by decide) rfl)]
  exact hr3
 have h4' : w4.ownsRow w1.heap.size 3 1 v4 (lettersZ zs).length (zI (lettersZ zs)) := h4
 have hll := lettersZ_len zs
 have HA := hidd (newAlphabet_any v4 (lettersZ zs) w4 (by omega) ((lettersZ_rise zs).imp (fun h => by omega)) (fun x hx => HP.out x ((lettersZ_mem zs x).1 hx)) (HoldI.own h4'))
 obtain ⟨ad4, cp4, rfl⟩ := own_sl1 h4'
 have H4 := hidd (HoldI.own h4')
 clear h4 h4' hg4 HC H3 hr3 hbw3 HP
 go_wp2_with fail
 refine HA.out.mono ?_
 rintro e w5 h5
 obtain ⟨vy, vs, vc, rfl, h6, h7, h8, hb5⟩ := al_sub h5
 have hbw5 : Below w.heap.size w w5 := hbw4.trans (hb5.mono hbw4.size)
 have hr5 := blko hr4 hb5
 have H5 := hidd (H4.out.below hb5)
 have H6 := hidd h6
 have H7 := hidd h7
 have H8 := hidd h8
 obtain ⟨ady, cpy, rfl, -⟩ := h6
 obtain ⟨ads, cps, rfl, -⟩ := h7
 obtain ⟨adc, cpc, rfl, -⟩ := h8
 generalize (nat2 (List.range (lettersZ zs).length)).length = ny at *
 generalize (lettersZ zs ++ [-1]).length = ns at *
 generalize (cntA (lettersZ zs).length).length = nc at *
 generalize hnl : (lettersZ zs).length = nl at *
 have r0 := blkc hr5 0
 have r1 := blkc hr5 1
 have r2 := blkc hr5 2
 have r3 := blkc hr5 3
 have fzr := fun j => frozen_of_row _ _ j _ _ hr5
 have Hfs := hidd (four_set hr5 (.slice ad4 nl cp4) (.slice ady ny cpy) (.slice ads ns cps) (.slice adc nc cpc))
 have HR5 := hidd hr5
 have HB5 := hidd hbw5
 clear h5 hb5 HA H4 hr4 hbw4 hr5 hbw5
 go_wp2_with fail
 have q0 := blkc Hfs.out 0
 have q1 := blkc Hfs.out 1
 have q2 := blkc Hfs.out 2
 have q3 := blkc Hfs.out 3
 have hbf : Below w.heap.size w ((((w5.setCell ⟨w.heap.size, 0, none⟩ (.slice ad4 nl cp4)).setCell ⟨w.heap.size, 1, none⟩ (.slice ady ny cpy)).setCell ⟨w.heap.size, 2, none⟩ (.slice ads ns cps)).setCell ⟨w.heap.size, 3, none⟩ (.slice adc nc cpc)) := (((HB5.out.setCell (p := ⟨w.heap.size, 0, none⟩) (Nat.le_refl _) _).setCell (p := ⟨w.heap.size, 1, none⟩) (Nat.le_refl _) _).setCell (p := ⟨w.heap.size, 2, none⟩) (Nat.le_refl _) _).setCell (p := ⟨w.heap.size, 3, none⟩) (Nat.le_refl _) _
 have keep : ∀ (u : Value) (ys : List Int), HoldI w5 u ys → HoldI ((((w5.setCell ⟨w.heap.size, 0, none⟩ (.slice ad4 nl cp4)).setCell ⟨w.heap.size, 1, none⟩ (.slice ady ny cpy)).setCell ⟨w.heap.size, 2, none⟩ (.slice ads ns cps)).setCell ⟨w.heap.size, 3, none⟩ (.slice adc nc cpc)) u ys := fun u ys hu => hu.off w.heap.size (no_int HR5.out) (fun g hg => by
  rw [heap_set_other _ _ _ _ _ hg, heap_set_other _ _ _ _ _ hg, heap_set_other _ _ _ _ _ hg, heap_set_other _ _ _ _ _ hg]) (by simp [World.setCell])
 have HFin : Hid (SpPost w zs (.returned (.agg #[.slice ad4 nl cp4, .slice ady ny cpy, .slice ads ns cps, .slice adc nc cpc])) ((((w5.setCell ⟨w.heap.size, 0, none⟩ (.slice ad4 nl cp4)).setCell ⟨w.heap.size, 1, none⟩ (.slice ady ny cpy)).setCell ⟨w.heap.size, 2, none⟩ (.slice ads ns cps)).setCell ⟨w.heap.size, 3, none⟩ (.slice adc nc cpc))) := ⟨_, _, _, _, rfl, keep _ _ H5.out, by rw [hnl]; exact keep _ _ H6.out, keep _ _ H7.out, by rw [hnl]; exact keep _ _ H8.out, hbf⟩
 clear hbf keep Hfs H5 H6 H7 H8 r0 r1 r2 r3 fzr HB5 HR5
 generalize ((((w5.setCell ⟨w.heap.size, 0, none⟩ (.slice ad4 nl cp4)).setCell ⟨w.heap.size, 1, none⟩ (.slice ady ny cpy)).setCell ⟨w.heap.size, 2, none⟩ (.slice ads ns cps)).setCell ⟨w.heap.size, 3, none⟩ (.slice adc nc cpc)) = Wf at *
 refine bodyPost_ret (v := .agg #[.slice ad4 nl cp4, .slice ady ny cpy, .slice ads ns cps, .slice adc nc cpc]) (by simp [results, Tryd.results44, go_sem, *]) rfl ?_
 exact HFin.out
end Go.Proofs.YtoinajfliogcdaaDoor
