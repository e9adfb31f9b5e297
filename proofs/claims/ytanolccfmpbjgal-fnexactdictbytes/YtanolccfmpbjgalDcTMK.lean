import Derived.Test.YtanolccfmpbjgalDictOKJ04
import Derived.Test.YtanolccfmpbjgalDictOKJ09
namespace Go.Proofs.Ytanolccfmpbjgal
open Go Go.RowKit
set_option linter.unusedVariables false

/-! laws.toDict, and how what it makes lies in memory. -/
def RowA (w : World) (g n : Nat) : Prop := ∃ cur, w.heap[g]? = some (Obj.cells cur 66) ∧ n * 3 ≤ cur.size
theorem RowA.below {w w' : World} {g n : Nat} (h : RowA w g n) (hb : Below w.heap.size w w') : RowA w' g n := by
  obtain ⟨cur, h1, h2⟩ := h
  exact ⟨cur, blko h1 hb, h2⟩
theorem RowA.set {w : World} {g n : Nat} (h : RowA w g n) (B j : Nat) (u : Value) (hne : B < g) : RowA (w.setCell ⟨B, j, none⟩ u) g n := by
  obtain ⟨cur, h1, h2⟩ := h
  exact ⟨cur, (heap_set_other w B j u g (by omega)).trans h1, h2⟩
theorem rowA_own {w : World} {base g n : Nat} {xs : List Value} (h : w.ownsRow base 66 3 (.slice (some ⟨g, 0, none⟩) n n) n xs) : RowA w g n := by
  rcases h.2 with ⟨h', _⟩ | ⟨g', cap, cur, h', _, hg, hc1, hc2, hc3, hc4⟩
  · simp at h'
  · simp only [Value.slice.injEq, Option.some.injEq, Addr.mk.injEq, and_true, true_and] at h'
    obtain ⟨rfl, rfl⟩ := h'
    exact ⟨cur, hg, by omega⟩
def StrM (W : World) (g : Nat) (ls : List Nat) : Prop := ∃ cs, W.heap[g]? = some (Obj.cells cs 61) ∧ ls.length * 2 ≤ cs.size ∧ ∀ j, j < ls.length → ∃ gj c, cs[j * 2 + 1]? = some (.slice (some ⟨gj, 0, none⟩) (ls.getD j 0) c) ∧ g < gj ∧ RowA W gj (ls.getD j 0)
theorem StrM.below {W W' : World} {g : Nat} {ls : List Nat} (h : StrM W g ls) (hb : Below W.heap.size W W') : StrM W' g ls := by
  obtain ⟨cs, h1, h2, h3⟩ := h
  exact ⟨cs, blko h1 hb, h2, fun j hj => by obtain ⟨gj, c, q1, q2, q3⟩ := h3 j hj; exact ⟨gj, c, q1, q2, q3.below hb⟩⟩
theorem StrM.set {W : World} {g : Nat} {ls : List Nat} (h : StrM W g ls) (B j : Nat) (u : Value) (hne : B < g) : StrM (W.setCell ⟨B, j, none⟩ u) g ls := by
  obtain ⟨cs, h1, h2, h3⟩ := h
  exact ⟨cs, (heap_set_other W B j u g (by omega)).trans h1, h2, fun i hi => by obtain ⟨gj, c, q1, q2, q3⟩ := h3 i hi; exact ⟨gj, c, q1, q2, q3.set B j u (by omega)⟩⟩
def CellsR (w : World) (B : Nat) (zs : List Value) (S : List St) (k : Nat) : Prop := ∀ j, j < k → ∃ g c, zs[j * 2 + 1]? = some (.slice (some ⟨g, 0, none⟩) (S.getD j st0).2.length c) ∧ B < g ∧ RowA w g (S.getD j st0).2.length
theorem CellsR.below {w w' : World} {B : Nat} {zs : List Value} {S : List St} {k : Nat} (h : CellsR w B zs S k) (hb : Below w.heap.size w w') : CellsR w' B zs S k :=
  fun j hj => by obtain ⟨g, c, h1, h2, h3⟩ := h j hj; exact ⟨g, c, h1, h2, h3.below hb⟩
theorem CellsR.set {w : World} {B : Nat} {zs : List Value} {S : List St} {k : Nat} (h : CellsR w B zs S k) (i : Nat) (u : Value) : CellsR (w.setCell ⟨B, i, none⟩ u) B zs S k :=
  fun j hj => by obtain ⟨g, c, h1, h2, h3⟩ := h j hj; exact ⟨g, c, h1, h2, h3.set B i u h2⟩
theorem CellsR.snoc {w : World} {B g c : Nat} {zs : List Value} {S : List St} {k n : Nat} {f : Bool} (hl : zs.length = k * 2) (h : CellsR w B zs S k) (hg : B < g) (hk : (S.getD k st0).2.length = n ∧ (S.getD k st0).1 = f) (hr : RowA w g n) : CellsR w B (zs ++ [.bool f, .slice (some ⟨g, 0, none⟩) n c]) S (k + 1) := by
  intro j hj
  by_cases hjk : j = k
  · subst hjk
    rw [hk.1]
    refine ⟨g, c, ?_, hg, hr⟩
    rw [List.getElem?_append_right (by omega), hl, show j * 2 + 1 - j * 2 = 1 by omega]; rfl
  · obtain ⟨g', c', h2, h3, h4⟩ := h j (by omega)
    exact ⟨g', c', by rw [List.getElem?_append_left (by omega)]; exact h2, h3, h4⟩
theorem strM_of {w : World} {base g : Nat} {S : List St} {zs : List Value} (h : w.ownsRow base 61 2 (.slice (some ⟨g, 0, none⟩) S.length S.length) S.length zs) (hr : CellsR w g zs S S.length) : StrM w g (S.map fun s => s.2.length) := by
  rcases h.2 with ⟨h', _⟩ | ⟨g', cap, cur, h', _, hg, hc1, hc2, hc3, hc4⟩
  · simp at h'
  · simp only [Value.slice.injEq, Option.some.injEq, Addr.mk.injEq, and_true, true_and] at h'
    obtain ⟨rfl, rfl⟩ := h'
    refine ⟨cur, hg, by rw [List.length_map]; omega, fun j hj => ?_⟩
    rw [List.length_map] at hj
    obtain ⟨gj, c, q1, q2, q3⟩ := hr j hj
    have e1 : (S.map fun s => s.2.length).getD j 0 = (S.getD j st0).2.length := by simp [List.getD_eq_getElem?_getD, hj]
    rw [e1]
    refine ⟨gj, c, ?_, q2, q3⟩
    have := h.cellAt (j * 2 + 1) (by omega)
    rw [blkc hg, q1] at this
    exact this
set_option maxHeartbeats 4000000 in
set_option maxRecDepth 100000 in
theorem toStateM_any (f : Bool) (a : Option Addr) (cap : Nat) (l : List Ar) (w : World) (hn : l.length ≤ 1048576) (h : HoldA w a l) :
    Calls Try.prog 56 #[.agg #[.bool f, .slice a l.length cap]] w fun e w' => ∃ g, e = .returned (.agg #[.bool f, .slice (some ⟨g, 0, none⟩) l.length l.length]) ∧ w.heap.size ≤ g ∧ HoldA w' (some ⟨g, 0, none⟩) l ∧ Below w.heap.size w w' ∧ RowA w' g l.length := by
  have HH := hidd h
  clear h
  go_enter Try.func56, Try.ntmps56
  go_upto_region 3 with fail
  obtain ⟨W3, hW3⟩ : ∃ W3, ((w.alloc (.cells #[.bool f, .slice a l.length cap] 95)).alloc (.cells #[.bool false, .slice none 0 0] 61)).alloc (.cells #[.bool f, .slice none 0 0] 61) = W3 := ⟨_, rfl⟩
  have hk0 : W3.heap[w.heap.size]? = some (.cells #[.bool f, .slice a l.length cap] 95) ∧ W3.heap[w.heap.size + 1]? = some (.cells #[.bool false, .slice none 0 0] 61) ∧ W3.heap[w.heap.size + 1 + 1]? = some (.cells #[.bool f, .slice none 0 0] 61) ∧ W3.heap.size = w.heap.size + 3 := by
    rw [← hW3]
    have h2 := box_two w (.cells #[.bool f, .slice a l.length cap] 95) (.cells #[.bool false, .slice none 0 0] 61)
    refine ⟨?_, ?_, ?_, by simp⟩
    · rw [Below.heap_alloc _ _ _ (by simp; omega)]; exact h2.1
    · rw [Below.heap_alloc _ _ _ (by simp)]; exact h2.2
    · have := heap_alloc_new ((w.alloc (.cells #[.bool f, .slice a l.length cap] 95)).alloc (.cells #[.bool false, .slice none 0 0] 61)) (.cells #[.bool f, .slice none 0 0] 61)
      simpa using this
  have HB3 : Hid (Below w.heap.size w W3) := by
    show Below _ _ _
    rw [← hW3]
    exact (((Below.refl _ _).alloc (Nat.le_refl _) _).alloc (by simp) _).alloc (by simp; omega) _
  try rw [hW3]
  clear hW3
  have HK := hidd hk0
  clear hk0
  have q1 : W3.cell? ⟨w.heap.size, 1, none⟩ = some (.slice a l.length cap) := blkc HK.out.1 1
  go_wp2_with fail
  refine (toArcs_any a cap l _ hn (HH.out.below HB3.out)).mono ?_
  rintro e w4 ⟨rfl, hown4, hb4⟩
  have Hh4 := hidd (holdA_own hown4)
  have HR4 := hidd (rowA_own hown4)
  have hz3 := HK.out.2.2.2
  have k1 := blko HK.out.2.1 hb4
  have k2 := blko HK.out.2.2.1 hb4
  have HB4 := hidd (HB3.out.trans (hb4.mono HB3.out.size))
  have c10 : w4.cell? ⟨w.heap.size + 1, 0, none⟩ = some (.bool false) := blkc k1 0
  have c11 : w4.cell? ⟨w.heap.size + 1, 1, none⟩ = some (.slice none 0 0) := blkc k1 1
  have c20 : w4.cell? ⟨w.heap.size + 1 + 1, 0, none⟩ = some (.bool f) := blkc k2 0
  have c21 : w4.cell? ⟨w.heap.size + 1 + 1, 1, none⟩ = some (.slice none 0 0) := blkc k2 1
  have f10 : w4.frozen? ⟨w.heap.size + 1, 0, none⟩ = false := frozen_of_row w4 _ 0 _ _ k1
  have f11 : w4.frozen? ⟨w.heap.size + 1, 1, none⟩ = false := frozen_of_row w4 _ 1 _ _ k1
  have f21 : w4.frozen? ⟨w.heap.size + 1 + 1, 1, none⟩ = false := frozen_of_row w4 _ 1 _ _ k2
  clear hown4 hb4 HB3 q1
  rw [hz3] at Hh4 HR4
  clear k1 k2
  go_wp2_with fail
  refine bodyPost_ret (v := .agg #[.bool f, .slice (some ⟨w.heap.size + 3, 0, none⟩) l.length l.length]) (by simp [results, Try.results56, go_sem, *]) rfl ?_
  refine ⟨w.heap.size + 3, rfl, by omega, ?_, ?_, ?_⟩
  · repeat (first | exact Hh4.out | refine HoldA.setOther ?_ _ _ _ (fun b off e => by cases e; omega))
  · iterate 3 refine Below.setCell ?_ (by dsimp only; omega) _
    exact HB4.out
  · iterate 3 refine RowA.set ?_ _ _ _ (by omega)
    exact HR4.out
set_option maxHeartbeats 4000000 in
set_option maxRecDepth 100000 in
theorem toStatesM_any (a : Option Addr) (cap : Nat) (S : List St) (w : World) (hn : S.length ≤ 1048576) (hA : ∀ i, (arcsAt S i).length ≤ 1048576) (hS : HoldS w a S) :
    Calls Try.prog 32 #[.slice a S.length cap] w fun e w' => e = .returned (.slice (some ⟨w.heap.size, 0, none⟩) S.length S.length) ∧ HoldN w' w.heap.size (some ⟨w.heap.size, 0, none⟩) S ∧ w.heap.size < w'.heap.size ∧ Below w.heap.size w w' ∧ StrM w' w.heap.size (S.map fun s => s.2.length) := by
  obtain ⟨i0, hi, hz0, hz1, hz2⟩ := info_parts Try.infoSt
  have HS := hidd hS
  have HA := hidd hA
  clear hS hA
  go_enter Try.func32, Try.ntmps32
  go_wp2_with (at_make; refine wpList_make_full _ rfl _ _ 27 rfl w.heap.size 61 i0 (.agg #[.bool false, .slice none 0 0]) 2 Try.underlying27 hi hz0 hz1 _ _ _ _ S.length rfl rfl (by omega) (by omega) ?b2 ?b3 (Nat.le_refl _) ?_)
  case b2 => (first | omega | (rw [hz2]; omega))
  case b3 => unfold maxLen; omega
  intro w0 hown0 hgrow0
  generalize (madeCells #[.bool false, .slice none 0 0] (S.length * 2)).toList = xs at hown0
  have hxl : xs.length = S.length * 2 := by have := hown0.1; omega
  have HO0 := hidd hown0
  have HB0 : Hid (Below w.heap.size w w0) := (Below.refl _ _).grown hgrow0 (Nat.le_refl _) (fun k h => by cases h)
  clear hown0 hgrow0
  go_wp2
  go_loopw [4] (fun i wr => ∃ (k : Nat) (zs : List Value), k ≤ S.length ∧ i = .int .i64 k ∧ wr.ownsRow w.heap.size 61 2 (.slice (some ⟨w.heap.size, 0, none⟩) S.length S.length) S.length (zs ++ xs.drop (k * 2)) ∧ CellsS wr w.heap.size zs S k ∧ Below w.heap.size w wr ∧ CellsR wr w.heap.size zs S k) (fun i _ => S.length - (intOf i).toNat)
  case atStart => exact ⟨0, [], Nat.zero_le _, rfl, HO0.out, ⟨rfl, fun j hj => absurd hj (by omega)⟩, HB0.out, fun j hj => absurd hj (by omega)⟩
  case round =>
    obtain ⟨k, zs, hk, rfl, hown, hcs, hbel, hcr⟩ := hrel
    have HRr := hidd hcr
    clear hcr
    have HO := hidd hown
    have HB := hidd hbel
    have HC := hidd hcs
    have hrl : w.heap.size < wr.heap.size := own2_lt hown
    clear hcs
    by_cases hlt : k < S.length
    · obtain ⟨b, off, rfl, hbl, hc⟩ := (HS.out.below hbel).resolve_left (fun h => by rw [h] at hlt; simp at hlt)
      obtain ⟨x0, ai, ci, x1, hha⟩ := hc k hlt
      have hal := HA.out k
      rw [arcsAt] at hal
      have HHA := hidd hha
      have Hsn := hidd (fun (w' : World) (g c : Nat) (h : CellsS w' w.heap.size zs S k) => CellsS.snoc (c := c) (g := g) h)
      clear hown hbel hc hha
      obtain ⟨s, hs⟩ : ∃ s, S.getD k st0 = s := ⟨_, rfl⟩
      rw [hs] at x0 x1 HHA hal Hsn
      have Hks := hidd hs
      clear hs
      obtain ⟨f, l⟩ := s
      have Hkl : Hid ((S.getD k st0).2.length = l.length ∧ (S.getD k st0).1 = f) := by rw [Hks.out]; exact ⟨rfl, rfl⟩
      clear Hks
      dsimp only at x0 x1 HHA hal Hsn
      go_wp2_with fail
      refine (toStateM_any f ai ci l _ hal HHA.out).mono ?_
      rintro e w2 ⟨g, rfl, hg, hh2, hb2, hr2⟩
      have HR2 := hidd (CellsR.snoc (c := l.length) HC.out.1 (HRr.out.below hb2) (show w.heap.size < g by omega) Hkl.out hr2)
      clear hr2 HRr
      have hown2 := own2_below HO.out hb2
      have HB2 := hidd (HB.out.trans (hb2.mono HB.out.size))
      have HC2 := hidd (HC.out.below hb2)
      have HH2 := hidd hh2
      have f1 := hown2.frozenAt (k * 2)
      have f2 := hown2.frozenAt (k * 2 + 1)
      have hzl := HC.out.1
      have hlen : (zs ++ xs.drop (k * 2)).length = S.length * 2 := by rw [List.length_append, hzl, List.length_drop]; omega
      have hex : ∀ j, j < S.length * 2 → ∃ u, w2.cell? ⟨w.heap.size, j, none⟩ = some u := fun j hj => by
        rw [hown2.cellAt j hj]
        exact ⟨_, List.getElem?_eq_getElem (by omega)⟩
      obtain ⟨u1, q1⟩ := hex (k * 2) (by omega)
      obtain ⟨u2, q2⟩ := hex (k * 2 + 1) (by omega)
      have HO2 := hidd hown2
      have HSet := hidd (setTwo zs xs k S.length (.bool f) (.slice (some ⟨g, 0, none⟩) l.length l.length) hzl hxl hlt)
      clear hown2 hb2 hex hlen HO HB x0 x1 hh2 HC
      go_wp2
      go_roundw
      case rel =>
        have s0 := HO2.out.stored (k * 2) (.bool f)
        have s1 := s0.1.stored (k * 2 + 1) (.slice (some ⟨g, 0, none⟩) l.length l.length)
        have st := s1.1
        rw [HSet.out] at st
        exact ⟨k + 1, _, by omega, by go_num, st, Hsn.out _ g l.length ((HC2.out.set _ _).set _ _) (by omega) ((HH2.out.setOther _ _ _ (fun b off e => by cases e; omega)).setOther _ _ _ (fun b off e => by cases e; omega)), (HB2.out.setCell (p := ⟨w.heap.size, k * 2, none⟩) (Nat.le_refl _) _).setCell (p := ⟨w.heap.size, k * 2 + 1, none⟩) (Nat.le_refl _) _, (HR2.out.set _ _).set _ _⟩
      case measure => simp [intOf]; omega
    · obtain rfl : k = S.length := by omega
      have HF := HO.out
      rw [List.drop_of_length_le (by omega), List.append_nil] at HF
      have HF2 : Hid (HoldN wr w.heap.size (some ⟨w.heap.size, 0, none⟩) S) := fun w' hz hk => Or.inr ⟨w.heap.size, 0, rfl, by omega, fun j hj => by
        obtain ⟨h1, g, c, h2, h3, h4⟩ := HC.out.2 j hj
        have e : ∀ i, w'.cell? ⟨w.heap.size, i, none⟩ = wr.cell? ⟨w.heap.size, i, none⟩ := fun i => by simp [World.cell?, hk w.heap.size (Nat.le_refl _) hrl]
        rw [Nat.zero_add, e, e]
        exact ⟨by rw [HF.cellAt (j * 2) (by omega)]; exact h1, _, c, by rw [HF.cellAt (j * 2 + 1) (by omega)]; exact h2, h4.keep hz fun b off he hb => hk b (by cases he; omega) hb⟩⟩
      have HSM := hidd (strM_of HF HRr.out)
      clear HF hown hbel
      go_wp2
      go_ret
      exact ⟨rfl, HF2.out, hrl, HB.out, HSM.out⟩
set_option maxHeartbeats 4000000 in
set_option maxRecDepth 100000 in
theorem toDictM_any (f : Int) (a : Option Addr) (cap : Nat) (l : List St) (w : World) (hn : l.length ≤ 1048576) (hA : ∀ i, (arcsAt l i).length ≤ 1048576) (h : HoldS w a l) :
    Calls Try.prog 11 #[.agg #[.int .i64 f, .slice a l.length cap]] w fun e w' => ∃ g, e = .returned (.agg #[.int .i64 f, .slice (some ⟨g, 0, none⟩) l.length l.length]) ∧ w.heap.size ≤ g ∧ HoldN w' g (some ⟨g, 0, none⟩) l ∧ Below w.heap.size w w' ∧ StrM w' g (l.map fun s => s.2.length) := by
  have HH := hidd h
  clear h
  go_enter Try.func11, Try.ntmps11
  go_upto_region 3 with fail
  obtain ⟨W3, hW3⟩ : ∃ W3, ((w.alloc (.cells #[.int .i64 f, .slice a l.length cap] 24)).alloc (.cells #[.int .i64 0, .slice none 0 0] 29)).alloc (.cells #[.int .i64 f, .slice none 0 0] 29) = W3 := ⟨_, rfl⟩
  have hk0 : W3.heap[w.heap.size]? = some (.cells #[.int .i64 f, .slice a l.length cap] 24) ∧ W3.heap[w.heap.size + 1]? = some (.cells #[.int .i64 0, .slice none 0 0] 29) ∧ W3.heap[w.heap.size + 1 + 1]? = some (.cells #[.int .i64 f, .slice none 0 0] 29) ∧ W3.heap.size = w.heap.size + 3 := by
    rw [← hW3]
    have h2 := box_two w (.cells #[.int .i64 f, .slice a l.length cap] 24) (.cells #[.int .i64 0, .slice none 0 0] 29)
    refine ⟨?_, ?_, ?_, by simp⟩
    · rw [Below.heap_alloc _ _ _ (by simp; omega)]; exact h2.1
    · rw [Below.heap_alloc _ _ _ (by simp)]; exact h2.2
    · have := heap_alloc_new ((w.alloc (.cells #[.int .i64 f, .slice a l.length cap] 24)).alloc (.cells #[.int .i64 0, .slice none 0 0] 29)) (.cells #[.int .i64 f, .slice none 0 0] 29)
      simpa using this
  have HB3 : Hid (Below w.heap.size w W3) := by
    show Below _ _ _
    rw [← hW3]
    exact (((Below.refl _ _).alloc (Nat.le_refl _) _).alloc (by simp) _).alloc (by simp; omega) _
  try rw [hW3]
  clear hW3
  have HK := hidd hk0
  clear hk0
  have q1 : W3.cell? ⟨w.heap.size, 1, none⟩ = some (.slice a l.length cap) := blkc HK.out.1 1
  go_wp2_with fail
  refine (toStatesM_any a cap l _ hn hA (HH.out.below HB3.out)).mono ?_
  rintro e w4 ⟨rfl, hhn4, hsz4, hb4, hsm4⟩
  have HSM := hidd hsm4
  clear hsm4
  have Hh4 := hidd hhn4
  have hz3 := HK.out.2.2.2
  have k1 := blko HK.out.2.1 hb4
  have k2 := blko HK.out.2.2.1 hb4
  have HB4 := hidd (HB3.out.trans (hb4.mono HB3.out.size))
  have c10 : w4.cell? ⟨w.heap.size + 1, 0, none⟩ = some (.int .i64 0) := blkc k1 0
  have c11 : w4.cell? ⟨w.heap.size + 1, 1, none⟩ = some (.slice none 0 0) := blkc k1 1
  have c20 : w4.cell? ⟨w.heap.size + 1 + 1, 0, none⟩ = some (.int .i64 f) := blkc k2 0
  have c21 : w4.cell? ⟨w.heap.size + 1 + 1, 1, none⟩ = some (.slice none 0 0) := blkc k2 1
  have f10 : w4.frozen? ⟨w.heap.size + 1, 0, none⟩ = false := frozen_of_row w4 _ 0 _ _ k1
  have f11 : w4.frozen? ⟨w.heap.size + 1, 1, none⟩ = false := frozen_of_row w4 _ 1 _ _ k1
  have f21 : w4.frozen? ⟨w.heap.size + 1 + 1, 1, none⟩ = false := frozen_of_row w4 _ 1 _ _ k2
  clear hhn4 hsz4 hb4 HB3 q1
  rw [hz3] at Hh4 HSM
  clear k1 k2
  go_wp2_with fail
  refine bodyPost_ret (v := .agg #[.int .i64 f, .slice (some ⟨w.heap.size + 3, 0, none⟩) l.length l.length]) (by simp [results, Try.results11, go_sem, *]) rfl ?_
  refine ⟨w.heap.size + 3, rfl, by omega, ?_, ?_, ?_⟩
  · iterate 3 refine HoldN.set ?_ _ _ _ (by omega)
    exact Hh4.out
  · iterate 3 refine Below.setCell ?_ (by dsimp only; omega) _
    exact HB4.out
  · iterate 3 refine StrM.set ?_ _ _ _ (by omega)
    exact HSM.out

end Go.Proofs.Ytanolccfmpbjgal
