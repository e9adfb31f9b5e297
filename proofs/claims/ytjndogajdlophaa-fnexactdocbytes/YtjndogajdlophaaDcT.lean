import Derived.Deep.CutBlock
import Derived.Test.YtjndogajdlophaaDcS
namespace Go.Proofs.Ytjndogajdlophaa
open Go Go.RowKit
set_option linter.unusedVariables false

theorem Try.infoSt : (Try.prog.info? 104).map (fun i => (i.zero, i.size, i.bytes)) = some (some (.agg #[.bool false, .slice none 0 0]), 2, 32) := by kernel_rfl
theorem own2_lt {w : World} {base e g n cap : Nat} {xs : List Value} (h : w.ownsRow base e 2 (.slice (some ⟨g, 0, none⟩) n cap) n xs) : g < w.heap.size := by
  rcases h.2 with ⟨h', _⟩ | ⟨g', cap', cur, h', _, hg, _⟩
  · simp at h'
  · simp only [Value.slice.injEq, Option.some.injEq, Addr.mk.injEq, and_true, true_and] at h'
    obtain ⟨rfl, rfl⟩ := h'
    exact (Array.getElem?_eq_some_iff.1 hg).1
theorem own2_below {w w' : World} {base e n : Nat} {v : Value} {xs : List Value} (h : w.ownsRow base e 2 v n xs) (hb : Below w.heap.size w w') : w'.ownsRow base e 2 v n xs := by
  refine ⟨h.1, ?_⟩
  rcases h.2 with h' | ⟨g, cap, cur, h1, h2, h3, h4⟩
  · exact Or.inl h'
  · exact Or.inr ⟨g, cap, cur, h1, h2, by rw [hb.block g (Array.getElem?_eq_some_iff.1 h3).1]; exact h3, h4⟩

theorem HoldA.setOther {w : World} {a : Option Addr} {l : List Ar} (h : HoldA w a l) (B j : Nat) (u : Value) (hne : ∀ b off, a = some ⟨b, off, none⟩ → B < b) : HoldA (w.setCell ⟨B, j, none⟩ u) a l :=
  h.keep (by simp) fun b off e _ => heap_setCell_other w ⟨B, j, none⟩ b u (by have := hne b off e; show b ≠ B; omega)
set_option maxHeartbeats 4000000 in
set_option maxRecDepth 100000 in
theorem toState_any (f : Bool) (a : Option Addr) (cap : Nat) (l : List Ar) (w : World) (hn : l.length ≤ 1048576) (h : HoldA w a l) :
    Calls Try.prog 55 #[.agg #[.bool f, .slice a l.length cap]] w fun e w' => ∃ g, e = .returned (.agg #[.bool f, .slice (some ⟨g, 0, none⟩) l.length l.length]) ∧ w.heap.size ≤ g ∧ HoldA w' (some ⟨g, 0, none⟩) l ∧ Below w.heap.size w w' := by
  have HH := hidd h
  clear h
  go_enter Try.func55, Try.ntmps55
  go_upto_region 3 with fail
  obtain ⟨W3, hW3⟩ : ∃ W3, ((w.alloc (.cells #[.bool f, .slice a l.length cap] 101)).alloc (.cells #[.bool false, .slice none 0 0] 104)).alloc (.cells #[.bool f, .slice none 0 0] 104) = W3 := ⟨_, rfl⟩
  have hk0 : W3.heap[w.heap.size]? = some (.cells #[.bool f, .slice a l.length cap] 101) ∧ W3.heap[w.heap.size + 1]? = some (.cells #[.bool false, .slice none 0 0] 104) ∧ W3.heap[w.heap.size + 1 + 1]? = some (.cells #[.bool f, .slice none 0 0] 104) ∧ W3.heap.size = w.heap.size + 3 := by
    rw [← hW3]
    have h2 := box_two w (.cells #[.bool f, .slice a l.length cap] 101) (.cells #[.bool false, .slice none 0 0] 104)
    refine ⟨?_, ?_, ?_, by simp⟩
    · rw [Below.heap_alloc _ _ _ (by simp; omega)]; exact h2.1
    · rw [Below.heap_alloc _ _ _ (by simp)]; exact h2.2
    · have := heap_alloc_new ((w.alloc (.cells #[.bool f, .slice a l.length cap] 101)).alloc (.cells #[.bool false, .slice none 0 0] 104)) (.cells #[.bool f, .slice none 0 0] 104)
      simpa using this
  have HB3 : Hid (Below w.heap.size w W3) := by
    show Below _ _ _
    rw [← hW3]
    exact (((Below.refl _ _).alloc (Nat.le_refl _) _).alloc (by simp) _).alloc (by simp; omega) _
  try rw [hW3]
  clear hW3
  have HK := hidd hk0
  clear hk0
  have q1 : W3.cell? ⟨w.heap.size, 1, none⟩ = some (.slice a l.length cap) := blkc HK.out.1 1
  go_wp2_with fail
  refine (toArcs_any a cap l _ hn (HH.out.below HB3.out)).mono ?_
  rintro e w4 ⟨rfl, hown4, hb4⟩
  have Hh4 := hidd (holdA_own hown4)
  have hz3 := HK.out.2.2.2
  have k1 := blko HK.out.2.1 hb4
  have k2 := blko HK.out.2.2.1 hb4
  have HB4 := hidd (HB3.out.trans (hb4.mono HB3.out.size))
  have c10 : w4.cell? ⟨w.heap.size + 1, 0, none⟩ = some (.bool false) := blkc k1 0
  have c11 : w4.cell? ⟨w.heap.size + 1, 1, none⟩ = some (.slice none 0 0) := blkc k1 1
  have c20 : w4.cell? ⟨w.heap.size + 1 + 1, 0, none⟩ = some (.bool f) := blkc k2 0
  have c21 : w4.cell? ⟨w.heap.size + 1 + 1, 1, none⟩ = some (.slice none 0 0) := blkc k2 1
  have f10 : w4.frozen? ⟨w.heap.size + 1, 0, none⟩ = false := frozen_of_row w4 _ 0 _ _ k1
  have f11 : w4.frozen? ⟨w.heap.size + 1, 1, none⟩ = false := frozen_of_row w4 _ 1 _ _ k1
  have f21 : w4.frozen? ⟨w.heap.size + 1 + 1, 1, none⟩ = false := frozen_of_row w4 _ 1 _ _ k2
  clear hown4 hb4 HB3 q1
  rw [hz3] at Hh4
  clear k1 k2
  go_wp2_with fail
  refine bodyPost_ret (v := .agg #[.bool f, .slice (some ⟨w.heap.size + 3, 0, none⟩) l.length l.length]) (by simp [results, Try.results55, go_sem, *]) rfl ?_
  refine ⟨w.heap.size + 3, rfl, by omega, ?_, ?_⟩
  · repeat (first | exact Hh4.out | refine HoldA.setOther ?_ _ _ _ (fun b off e => by cases e; omega))
  · iterate 3 refine Below.setCell ?_ (by dsimp only; omega) _
    exact HB4.out

/-- Cells of states whose arcs lie somewhere. -/
def CellsS (w : World) (B : Nat) (zs : List Value) (S : List St) (k : Nat) : Prop := zs.length = k * 2 ∧ ∀ j, j < k → zs[j * 2]? = some (.bool (S.getD j st0).1) ∧ ∃ g c, zs[j * 2 + 1]? = some (.slice (some ⟨g, 0, none⟩) (S.getD j st0).2.length c) ∧ B < g ∧ HoldA w (some ⟨g, 0, none⟩) (S.getD j st0).2
theorem CellsS.below {w w' : World} {B : Nat} {zs : List Value} {S : List St} {k : Nat} (h : CellsS w B zs S k) (hb : Below w.heap.size w w') : CellsS w' B zs S k :=
  ⟨h.1, fun j hj => by obtain ⟨h1, g, c, h2, h3, h4⟩ := h.2 j hj; exact ⟨h1, g, c, h2, h3, h4.below hb⟩⟩
theorem CellsS.set {w : World} {B : Nat} {zs : List Value} {S : List St} {k : Nat} (h : CellsS w B zs S k) (i : Nat) (u : Value) : CellsS (w.setCell ⟨B, i, none⟩ u) B zs S k :=
  ⟨h.1, fun j hj => by obtain ⟨h1, g, c, h2, h3, h4⟩ := h.2 j hj; exact ⟨h1, g, c, h2, h3, h4.setOther B i u (fun b off e => by cases e; exact h3)⟩⟩
theorem CellsS.snoc {w : World} {B g c : Nat} {zs : List Value} {S : List St} {k : Nat} (h : CellsS w B zs S k) (hg : B < g) (hh : HoldA w (some ⟨g, 0, none⟩) (S.getD k st0).2) : CellsS w B (zs ++ [.bool (S.getD k st0).1, .slice (some ⟨g, 0, none⟩) (S.getD k st0).2.length c]) S (k + 1) := by
  refine ⟨by rw [List.length_append, h.1]; simp; omega, fun j hj => ?_⟩
  have hl := h.1
  by_cases hjk : j = k
  · subst hjk
    refine ⟨?_, g, c, ?_, hg, hh⟩
    · rw [List.getElem?_append_right (by omega), hl, Nat.sub_self]; rfl
    · rw [List.getElem?_append_right (by omega), hl, show j * 2 + 1 - j * 2 = 1 by omega]; rfl
  · obtain ⟨h1, g', c', h2, h3, h4⟩ := h.2 j (by omega)
    exact ⟨by rw [List.getElem?_append_left (by omega)]; exact h1, g', c', by rw [List.getElem?_append_left (by omega)]; exact h2, h3, h4⟩
theorem setTwo (zs xs : List Value) (k n : Nat) (u v : Value) (hz : zs.length = k * 2) (hx : xs.length = n * 2) (hk : k < n) : ((zs ++ xs.drop (k * 2)).set (k * 2) u).set (k * 2 + 1) v = (zs ++ [u, v]) ++ xs.drop ((k + 1) * 2) := by
  have d1 : xs.drop (k * 2) = xs[k * 2]'(by omega) :: xs[k * 2 + 1]'(by omega) :: xs.drop ((k + 1) * 2) := by
    rw [List.drop_eq_getElem_cons (by omega : k * 2 < xs.length), List.drop_eq_getElem_cons (by omega : k * 2 + 1 < xs.length), show k * 2 + 1 + 1 = (k + 1) * 2 by omega]
  rw [List.set_append_right _ _ (by omega), hz, Nat.sub_self, d1, List.set_cons_zero, List.set_append_right _ _ (by omega), hz, show k * 2 + 1 - k * 2 = 1 by omega, List.append_assoc]
  rfl
/-- States that lie in new blocks alone. -/
def HoldN (w : World) (base : Nat) (a : Option Addr) (S : List St) : Prop := ∀ w', w.heap.size ≤ w'.heap.size → (∀ b, base ≤ b → b < w.heap.size → w'.heap[b]? = w.heap[b]?) → HoldS w' a S
theorem HoldN.now {w : World} {base : Nat} {a : Option Addr} {S : List St} (h : HoldN w base a S) : HoldS w a S := h w (Nat.le_refl _) fun _ _ _ => rfl
theorem HoldN.set {w : World} {base : Nat} {a : Option Addr} {S : List St} (h : HoldN w base a S) (B j : Nat) (u : Value) (hB : B < base) : HoldN (w.setCell ⟨B, j, none⟩ u) base a S := fun w' hz hk =>
  h w' (by simpa using hz) fun b hb hbl => (hk b hb (by simpa using hbl)).trans (heap_setCell_other w ⟨B, j, none⟩ b u (by show b ≠ B; omega))
theorem HoldN.below {w w' : World} {base : Nat} {a : Option Addr} {S : List St} (h : HoldN w base a S) (hb : Below w.heap.size w w') : HoldN w' base a S := fun w'' hz hk =>
  h w'' (Nat.le_trans hb.size hz) fun b h1 h2 => (hk b h1 (Nat.lt_of_lt_of_le h2 hb.size)).trans (hb.block b h2)
set_option maxHeartbeats 4000000 in
set_option maxRecDepth 100000 in
theorem toStates_any (a : Option Addr) (cap : Nat) (S : List St) (w : World) (hn : S.length ≤ 1048576) (hA : ∀ i, (arcsAt S i).length ≤ 1048576) (hS : HoldS w a S) :
    Calls Try.prog 28 #[.slice a S.length cap] w fun e w' => e = .returned (.slice (some ⟨w.heap.size, 0, none⟩) S.length S.length) ∧ HoldN w' w.heap.size (some ⟨w.heap.size, 0, none⟩) S ∧ w.heap.size < w'.heap.size ∧ Below w.heap.size w w' := by
  obtain ⟨i0, hi, hz0, hz1, hz2⟩ := info_parts Try.infoSt
  have HS := hidd hS
  have HA := hidd hA
  clear hS hA
  go_enter Try.func28, Try.ntmps28
  go_wp2_with (at_make; refine wpList_make_full _ rfl _ _ 28 rfl w.heap.size 104 i0 (.agg #[.bool false, .slice none 0 0]) 2 Try.underlying28 hi hz0 hz1 _ _ _ _ S.length rfl rfl (by omega) (by omega) ?b2 ?b3 (Nat.le_refl _) ?_)
  case b2 => (first | omega | (rw [hz2]; omega))
  case b3 => unfold maxLen; omega
  intro w0 hown0 hgrow0
  generalize (madeCells #[.bool false, .slice none 0 0] (S.length * 2)).toList = xs at hown0
  have hxl : xs.length = S.length * 2 := by have := hown0.1; omega
  have HO0 := hidd hown0
  have HB0 : Hid (Below w.heap.size w w0) := (Below.refl _ _).grown hgrow0 (Nat.le_refl _) (fun k h => by cases h)
  clear hown0 hgrow0
  go_wp2
  go_loopw [4] (fun i wr => ∃ (k : Nat) (zs : List Value), k ≤ S.length ∧ i = .int .i64 k ∧ wr.ownsRow w.heap.size 104 2 (.slice (some ⟨w.heap.size, 0, none⟩) S.length S.length) S.length (zs ++ xs.drop (k * 2)) ∧ CellsS wr w.heap.size zs S k ∧ Below w.heap.size w wr) (fun i _ => S.length - (intOf i).toNat)
  case atStart => exact ⟨0, [], Nat.zero_le _, rfl, HO0.out, ⟨rfl, fun j hj => absurd hj (by omega)⟩, HB0.out⟩
  case round =>
    obtain ⟨k, zs, hk, rfl, hown, hcs, hbel⟩ := hrel
    have HO := hidd hown
    have HB := hidd hbel
    have HC := hidd hcs
    have hrl : w.heap.size < wr.heap.size := own2_lt hown
    clear hcs
    by_cases hlt : k < S.length
    · obtain ⟨b, off, rfl, hbl, hc⟩ := (HS.out.below hbel).resolve_left (fun h => by rw [h] at hlt; simp at hlt)
      obtain ⟨x0, ai, ci, x1, hha⟩ := hc k hlt
      have hal := HA.out k
      rw [arcsAt] at hal
      have HHA := hidd hha
      have Hsn := hidd (fun (w' : World) (g c : Nat) (h : CellsS w' w.heap.size zs S k) => CellsS.snoc (c := c) (g := g) h)
      clear hown hbel hc hha
      obtain ⟨s, hs⟩ : ∃ s, S.getD k st0 = s := ⟨_, rfl⟩
      rw [hs] at x0 x1 HHA hal Hsn
      clear hs
      obtain ⟨f, l⟩ := s
      dsimp only at x0 x1 HHA hal Hsn
      go_wp2_with fail
      refine (toState_any f ai ci l _ hal HHA.out).mono ?_
      rintro e w2 ⟨g, rfl, hg, hh2, hb2⟩
      have hown2 := own2_below HO.out hb2
      have HB2 := hidd (HB.out.trans (hb2.mono HB.out.size))
      have HC2 := hidd (HC.out.below hb2)
      have HH2 := hidd hh2
      have f1 := hown2.frozenAt (k * 2)
      have f2 := hown2.frozenAt (k * 2 + 1)
      have hzl := HC.out.1
      have hlen : (zs ++ xs.drop (k * 2)).length = S.length * 2 := by rw [List.length_append, hzl, List.length_drop]; omega
      have hex : ∀ j, j < S.length * 2 → ∃ u, w2.cell? ⟨w.heap.size, j, none⟩ = some u := fun j hj => by
        rw [hown2.cellAt j hj]
        exact ⟨_, List.getElem?_eq_getElem (by omega)⟩
      obtain ⟨u1, q1⟩ := hex (k * 2) (by omega)
      obtain ⟨u2, q2⟩ := hex (k * 2 + 1) (by omega)
      have HO2 := hidd hown2
      have HSet := hidd (setTwo zs xs k S.length (.bool f) (.slice (some ⟨g, 0, none⟩) l.length l.length) hzl hxl hlt)
      clear hown2 hb2 hex hlen HO HB x0 x1 hh2 HC
      go_wp2
      go_roundw
      case rel =>
        have s0 := HO2.out.stored (k * 2) (.bool f)
        have s1 := s0.1.stored (k * 2 + 1) (.slice (some ⟨g, 0, none⟩) l.length l.length)
        have st := s1.1
        rw [HSet.out] at st
        exact ⟨k + 1, _, by omega, by go_num, st, Hsn.out _ g l.length ((HC2.out.set _ _).set _ _) (by omega) ((HH2.out.setOther _ _ _ (fun b off e => by cases e; omega)).setOther _ _ _ (fun b off e => by cases e; omega)), (HB2.out.setCell (p := ⟨w.heap.size, k * 2, none⟩) (Nat.le_refl _) _).setCell (p := ⟨w.heap.size, k * 2 + 1, none⟩) (Nat.le_refl _) _⟩
      case measure => simp [intOf]; omega
    · obtain rfl : k = S.length := by omega
      have HF := HO.out
      rw [List.drop_of_length_le (by omega), List.append_nil] at HF
      have HF2 : Hid (HoldN wr w.heap.size (some ⟨w.heap.size, 0, none⟩) S) := fun w' hz hk => Or.inr ⟨w.heap.size, 0, rfl, by omega, fun j hj => by
        obtain ⟨h1, g, c, h2, h3, h4⟩ := HC.out.2 j hj
        have e : ∀ i, w'.cell? ⟨w.heap.size, i, none⟩ = wr.cell? ⟨w.heap.size, i, none⟩ := fun i => by simp [World.cell?, hk w.heap.size (Nat.le_refl _) hrl]
        rw [Nat.zero_add, e, e]
        exact ⟨by rw [HF.cellAt (j * 2) (by omega)]; exact h1, _, c, by rw [HF.cellAt (j * 2 + 1) (by omega)]; exact h2, h4.keep hz fun b off he hb => hk b (by cases he; omega) hb⟩⟩
      clear HF hown hbel
      go_wp2
      go_ret
      exact ⟨rfl, HF2.out, hrl, HB.out⟩
set_option maxHeartbeats 4000000 in
set_option maxRecDepth 100000 in
theorem toDict_any (f : Int) (a : Option Addr) (cap : Nat) (l : List St) (w : World) (hn : l.length ≤ 1048576) (hA : ∀ i, (arcsAt l i).length ≤ 1048576) (h : HoldS w a l) :
    Calls Try.prog 8 #[.agg #[.int .i64 f, .slice a l.length cap]] w fun e w' => ∃ g, e = .returned (.agg #[.int .i64 f, .slice (some ⟨g, 0, none⟩) l.length l.length]) ∧ w.heap.size ≤ g ∧ HoldN w' g (some ⟨g, 0, none⟩) l ∧ Below w.heap.size w w' := by
  have HH := hidd h
  clear h
  go_enter Try.func8, Try.ntmps8
  go_upto_region 3 with fail
  obtain ⟨W3, hW3⟩ : ∃ W3, ((w.alloc (.cells #[.int .i64 f, .slice a l.length cap] 24)).alloc (.cells #[.int .i64 0, .slice none 0 0] 30)).alloc (.cells #[.int .i64 f, .slice none 0 0] 30) = W3 := ⟨_, rfl⟩
  have hk0 : W3.heap[w.heap.size]? = some (.cells #[.int .i64 f, .slice a l.length cap] 24) ∧ W3.heap[w.heap.size + 1]? = some (.cells #[.int .i64 0, .slice none 0 0] 30) ∧ W3.heap[w.heap.size + 1 + 1]? = some (.cells #[.int .i64 f, .slice none 0 0] 30) ∧ W3.heap.size = w.heap.size + 3 := by
    rw [← hW3]
    have h2 := box_two w (.cells #[.int .i64 f, .slice a l.length cap] 24) (.cells #[.int .i64 0, .slice none 0 0] 30)
    refine ⟨?_, ?_, ?_, by simp⟩
    · rw [Below.heap_alloc _ _ _ (by simp; omega)]; exact h2.1
    · rw [Below.heap_alloc _ _ _ (by simp)]; exact h2.2
    · have := heap_alloc_new ((w.alloc (.cells #[.int .i64 f, .slice a l.length cap] 24)).alloc (.cells #[.int .i64 0, .slice none 0 0] 30)) (.cells #[.int .i64 f, .slice none 0 0] 30)
      simpa using this
  have HB3 : Hid (Below w.heap.size w W3) := by
    show Below _ _ _
    rw [← hW3]
    exact (((Below.refl _ _).alloc (Nat.le_refl _) _).alloc (by simp) _).alloc (by simp; omega) _
  try rw [hW3]
  clear hW3
  have HK := hidd hk0
  clear hk0
  have q1 : W3.cell? ⟨w.heap.size, 1, none⟩ = some (.slice a l.length cap) := blkc HK.out.1 1
  go_wp2_with fail
  refine (toStates_any a cap l _ hn hA (HH.out.below HB3.out)).mono ?_
  rintro e w4 ⟨rfl, hhn4, hsz4, hb4⟩
  have Hh4 := hidd hhn4
  have hz3 := HK.out.2.2.2
  have k1 := blko HK.out.2.1 hb4
  have k2 := blko HK.out.2.2.1 hb4
  have HB4 := hidd (HB3.out.trans (hb4.mono HB3.out.size))
  have c10 : w4.cell? ⟨w.heap.size + 1, 0, none⟩ = some (.int .i64 0) := blkc k1 0
  have c11 : w4.cell? ⟨w.heap.size + 1, 1, none⟩ = some (.slice none 0 0) := blkc k1 1
  have c20 : w4.cell? ⟨w.heap.size + 1 + 1, 0, none⟩ = some (.int .i64 f) := blkc k2 0
  have c21 : w4.cell? ⟨w.heap.size + 1 + 1, 1, none⟩ = some (.slice none 0 0) := blkc k2 1
  have f10 : w4.frozen? ⟨w.heap.size + 1, 0, none⟩ = false := frozen_of_row w4 _ 0 _ _ k1
  have f11 : w4.frozen? ⟨w.heap.size + 1, 1, none⟩ = false := frozen_of_row w4 _ 1 _ _ k1
  have f21 : w4.frozen? ⟨w.heap.size + 1 + 1, 1, none⟩ = false := frozen_of_row w4 _ 1 _ _ k2
  clear hhn4 hsz4 hb4 HB3 q1
  rw [hz3] at Hh4
  clear k1 k2
  go_wp2_with fail
  refine bodyPost_ret (v := .agg #[.int .i64 f, .slice (some ⟨w.heap.size + 3, 0, none⟩) l.length l.length]) (by simp [results, Try.results8, go_sem, *]) rfl ?_
  refine ⟨w.heap.size + 3, rfl, by omega, ?_, ?_⟩
  · iterate 3 refine HoldN.set ?_ _ _ _ (by omega)
    exact Hh4.out
  · iterate 3 refine Below.setCell ?_ (by dsimp only; omega) _
    exact HB4.out

end Go.Proofs.Ytjndogajdlophaa
