import Derived.Test.YtefhmbnhhkgifaaRbU
namespace Go.Proofs.Ytefhmbnhhkgifaa
open Go Go.RowKit
set_option linter.unusedVariables false
set_option linter.unusedSimpArgs false
set_option maxRecDepth 100000

theorem rcOK_kind {kd sq : Int} {id did : List UInt8} {V : List Vl} (h : rcOK (kd, sq, id, (did, V)) = true) : (kd = 1 ∨ kd = 2) ∧ (∃ q : Nat, sq = (q : Int) ∧ 1 ≤ q ∧ q < 4611686018427387904) ∧ (kd = 1 → dcOK (did, V) = true) ∧ id.length ≤ 30 := by
  simp only [rcOK, Bool.and_eq_true, seqOK, decide_eq_true_eq] at h
  obtain ⟨⟨h1, h2⟩, h3⟩ := h
  refine ⟨?_, ⟨sq.toNat, by omega, by omega, by omega⟩, fun hk => ?_, ?_⟩
  · split at h3
    · exact Or.inl ‹_›
    · simp only [Bool.and_eq_true, decide_eq_true_eq] at h3; exact Or.inr h3.1.1.1
  · rw [if_pos hk] at h3
    simp only [Bool.and_eq_true, decide_eq_true_eq] at h3; exact h3.2
  · split at h3
    · simp only [Bool.and_eq_true, decide_eq_true_eq] at h3; omega
    · simp only [Bool.and_eq_true, decide_eq_true_eq, idV] at h3; omega
/-- What both sides' RecordBytes keep to. -/
def RecC (f : Nat) : Prop := ∀ (kd sq : Int) (id did : List UInt8) (a : Option Addr) (c : Nat) (V : List Vl) (w : World), id.length ≤ 1048576 → did.length ≤ 1048576 → V.length ≤ 1048576 → (∀ i, (V.getD i vl0).1.length ≤ 1048576 ∧ (V.getD i vl0).2.1.length ≤ 1048576 ∧ (V.getD i vl0).2.2.length ≤ 1048576) → (dcOK (did, V) = true → (dcB (did, V)).length ≤ 500000000) → leV V ≤ 1048576 → HoldV w a V →
  Calls Try.prog f #[.agg #[.int .i64 kd, .int .i64 sq, .string ⟨id.toArray⟩, .string ⟨did.toArray⟩, .slice a V.length c]] w fun e w' => ∃ v, e = .returned (.tuple #[v, .int .i64 (rcO (kd, sq, id, (did, V))).2]) ∧ w'.ownsRow w.heap.size 5 1 v (rcO (kd, sq, id, (did, V))).1.length (Lib.byteCells (rcO (kd, sq, id, (did, V))).1) ∧ Below w.heap.size w w'
set_option maxHeartbeats 4000000 in
theorem specRec_any : RecC 5 := by
  intro kd sq id did a c V w hid hdid hn hT hSz hle h
  have HV := hidd h
  have HBa := hidd ((Below.refl w.heap.size w).alloc (Nat.le_refl _) (.cells #[.int .i64 kd, .int .i64 sq, .string ⟨id.toArray⟩, .string ⟨did.toArray⟩, .slice a V.length c] 35))
  have HX := hidd (heap_alloc_new w (.cells #[.int .i64 kd, .int .i64 sq, .string ⟨id.toArray⟩, .string ⟨did.toArray⟩, .slice a V.length c] 35))
  have HK := hidd (fun (W : World) (hW : HoldV W a V) => specRecOK_any kd sq id did a c V W hid hdid hn (fun i => (hT i).2) hW)
  clear h hT hle
  go_enter Try.func5, Try.ntmps5
  go_upto_region 1 with fail
  obtain ⟨wa, hwa⟩ : ∃ wa, w.alloc (.cells #[.int .i64 kd, .int .i64 sq, .string ⟨id.toArray⟩, .string ⟨did.toArray⟩, .slice a V.length c] 35) = wa := ⟨_, rfl⟩
  rw [hwa] at HBa HX
  try rw [hwa]
  clear hwa
  have hzw : w.heap.size < wa.heap.size := (Array.getElem?_eq_some_iff.1 HX.out).1
  have x0 := blkc HX.out 0
  have x1 := blkc HX.out 1
  have x2 := blkc HX.out 2
  have x3 := blkc HX.out 3
  have x4 := blkc HX.out 4
  go_wp2_with fail
  refine (HK.out _ (HV.out.below HBa.out)).mono ?_
  rintro e w1 ⟨rfl, hb1⟩
  have HB1 := hidd (HBa.out.trans (hb1.mono HBa.out.size))
  have HX1 := hidd (blko HX.out hb1)
  have hz1 := hb1.size
  clear hb1 x0 x1 x2 x3 x4 HX
  cases hok : rcOK (kd, sq, id, (did, V)) with
  | false =>
    have HO : Hid (rcO (kd, sq, id, (did, V)) = ([], 1)) := by show _ = _; rw [rcO, hok]; rfl
    clear hok
    go_wp2_with fail
    go_ret2
    exact ⟨_, by rw [HO.out]; rfl, by rw [HO.out]; exact own_mono (own_empty w1 5) (by omega), HB1.out.alloc (by omega) _⟩
  | true =>
    obtain ⟨hk, ⟨q, rfl, hq1, hq2⟩, hd, hi30⟩ := rcOK_kind hok
    have HR := hidd (specRecB_any kd q id did a c V w1 hk hq2 hid hd (fun hk => hSz (hd hk)) (HV.out.below HB1.out))
    have hpl := partB_len (rcPart (kd, (q : Int), id, (did, V))) (by
      rw [rcPart_hd, List.length_append]
      have := putL_length9 q hq2
      simp only [hdB, List.length_cons]
      by_cases h1 : kd = 1
      · have := hSz (hd h1)
        rw [if_pos h1]; omega
      · rw [if_neg h1]; omega)
    have hpl2 : (partB (rcPart (kd, (q : Int), id, (did, V)))).length ≤ 500001000 := by
      have : (rcPart (kd, (q : Int), id, (did, V))).length ≤ 500000100 := by
        rw [rcPart_hd, List.length_append]
        have := putL_length9 q hq2
        simp only [hdB, List.length_cons]
        by_cases h1 : kd = 1
        · have := hSz (hd h1)
          rw [if_pos h1]; omega
        · rw [if_neg h1]; omega
      omega
    have HO : Hid (rcO (kd, (q : Int), id, (did, V)) = if 1048576 < (partB (rcPart (kd, (q : Int), id, (did, V)))).length then ([], 2) else (partB (rcPart (kd, (q : Int), id, (did, V))), 0)) := by show _ = _; rw [rcO, hok]; rfl
    obtain ⟨B, hB⟩ : ∃ B, partB (rcPart (kd, (q : Int), id, (did, V))) = B := ⟨_, rfl⟩
    rw [hB] at HR hpl2 HO
    clear hok hpl hB hd hSz
    have x0 := blkc HX1.out 0
    have x1 := blkc HX1.out 1
    have x2 := blkc HX1.out 2
    have x3 := blkc HX1.out 3
    have x4 := blkc HX1.out 4
    go_wp2_with fail
    refine HR.out.mono ?_
    rintro e w2 ⟨v2, rfl, hown2, hb2⟩
    obtain ⟨a2, c2, rfl⟩ := own_form hown2
    have HO2 := hidd hown2
    have HB2 := hidd (HB1.out.trans (hb2.mono HB1.out.size))
    have hz2 := hb2.size
    clear hown2 hb2 HR x0 x1 x2 x3 x4 HX1
    by_cases hbig : 1048576 < B.length
    · rw [if_pos hbig] at HO
      have hbz : (B.length : Int) > 1048576 := by omega
      go_wp2_with fail
      go_ret2
      exact ⟨_, by rw [HO.out]; rfl, by rw [HO.out]; exact own_mono (own_empty w2 5) (by omega), HB2.out.alloc (by omega) _⟩
    · rw [if_neg hbig] at HO
      have hbz : ¬ (B.length : Int) > 1048576 := by omega
      go_wp2_with fail
      go_ret2
      exact ⟨_, by rw [HO.out]; rfl, by rw [HO.out]; exact own_mono HO2.out (by omega), HB2.out⟩
end Go.Proofs.Ytefhmbnhhkgifaa
