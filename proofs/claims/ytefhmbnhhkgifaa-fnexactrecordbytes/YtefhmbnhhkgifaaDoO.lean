import Derived.Test.YtefhmbnhhkgifaaDoN
namespace Go.Proofs.Ytefhmbnhhkgifaa
open Go Go.RowKit
set_option linter.unusedVariables false
set_option maxRecDepth 100000

set_option maxHeartbeats 4000000 in
theorem toVal_any (f : List UInt8) (at_ an : Option Addr) (ct cn : Nat) (tx : List (List UInt8)) (nz : List Int) (w : World) (hxl : tx.length ≤ 1048576) (hnl : nz.length ≤ 1048576) (hT : HoldTx w at_ tx) (hZ : HoldZ w an nz) :
    Calls Try.prog 45 #[.agg #[.string ⟨f.toArray⟩, .slice at_ tx.length ct, .slice an nz.length cn]] w fun e w' => ∃ gt gn, e = .returned (.agg #[.string ⟨f.toArray⟩, .slice (some ⟨gt, 0, none⟩) tx.length tx.length, .slice (some ⟨gn, 0, none⟩) nz.length nz.length]) ∧ w.heap.size ≤ gt ∧ w.heap.size ≤ gn ∧ RowTx w' gt tx ∧ RowNz w' gn nz ∧ Below w.heap.size w w' := by
  have HT := hidd hT
  have HZ := hidd hZ
  clear hT hZ
  go_enter Try.func45, Try.ntmps45
  go_upto_region 3 with fail
  obtain ⟨W3, hW3⟩ : ∃ W3, ((w.alloc (.cells #[.string ⟨f.toArray⟩, .slice at_ tx.length ct, .slice an nz.length cn] 72)).alloc (.cells #[.string ⟨#[]⟩, .slice none 0 0, .slice none 0 0] 65)).alloc (.cells #[.string ⟨f.toArray⟩, .slice none 0 0, .slice none 0 0] 65) = W3 := ⟨_, rfl⟩
  have hk0 : W3.heap[w.heap.size]? = some (.cells #[.string ⟨f.toArray⟩, .slice at_ tx.length ct, .slice an nz.length cn] 72) ∧ W3.heap[w.heap.size + 1]? = some (.cells #[.string ⟨#[]⟩, .slice none 0 0, .slice none 0 0] 65) ∧ W3.heap[w.heap.size + 1 + 1]? = some (.cells #[.string ⟨f.toArray⟩, .slice none 0 0, .slice none 0 0] 65) ∧ W3.heap.size = w.heap.size + 3 := by
    rw [← hW3]
    have h2 := box_two w (.cells #[.string ⟨f.toArray⟩, .slice at_ tx.length ct, .slice an nz.length cn] 72) (.cells #[.string ⟨#[]⟩, .slice none 0 0, .slice none 0 0] 65)
    refine ⟨?_, ?_, ?_, by simp⟩
    · rw [Below.heap_alloc _ _ _ (by simp; omega)]; exact h2.1
    · rw [Below.heap_alloc _ _ _ (by simp)]; exact h2.2
    · have := heap_alloc_new ((w.alloc (.cells #[.string ⟨f.toArray⟩, .slice at_ tx.length ct, .slice an nz.length cn] 72)).alloc (.cells #[.string ⟨#[]⟩, .slice none 0 0, .slice none 0 0] 65)) (.cells #[.string ⟨f.toArray⟩, .slice none 0 0, .slice none 0 0] 65)
      simpa using this
  have HB3 : Hid (Below w.heap.size w W3) := by
    show Below _ _ _
    rw [← hW3]
    exact (((Below.refl _ _).alloc (Nat.le_refl _) _).alloc (by simp) _).alloc (by simp; omega) _
  try rw [hW3]
  clear hW3
  have HK := hidd hk0
  clear hk0
  have hz3 := HK.out.2.2.2
  have q1 : W3.cell? ⟨w.heap.size, 1, none⟩ = some (.slice at_ tx.length ct) := blkc HK.out.1 1
  have HC1 := hidd (toTx_any at_ ct tx W3 hxl (HT.out.below HB3.out))
  go_wp2_with fail
  refine HC1.out.mono ?_
  rintro e w4 ⟨rfl, hr4, hb4⟩
  have HR4 := hidd hr4
  have HB4 := hidd (HB3.out.trans (hb4.mono HB3.out.size))
  have HK0 := hidd (blko HK.out.1 hb4)
  have HK1 := hidd (blko HK.out.2.1 hb4)
  have HK2 := hidd (blko HK.out.2.2.1 hb4)
  have c21 : w4.cell? ⟨w.heap.size + 1 + 1, 1, none⟩ = some (.slice none 0 0) := blkc HK2.out 1
  have f21 : w4.frozen? ⟨w.heap.size + 1 + 1, 1, none⟩ = false := frozen_of_row w4 _ 1 _ _ HK2.out
  rw [hz3] at HR4
  try rw [hz3]
  have hz4 : w.heap.size + 3 ≤ w4.heap.size := by have := hb4.size; omega
  clear hr4 hb4 HC1 q1 HB3
  dsimp only
  go_upto_region 4 with fail
  obtain ⟨w5, hw5⟩ : ∃ w5, w4.setCell ⟨w.heap.size + 1 + 1, 1, none⟩ (.slice (some ⟨w.heap.size + 3, 0, none⟩) tx.length tx.length) = w5 := ⟨_, rfl⟩
  have k0 := heap_set_other w4 (w.heap.size + 1 + 1) 1 (.slice (some ⟨w.heap.size + 3, 0, none⟩) tx.length tx.length) w.heap.size (by omega)
  have k1 := heap_set_other w4 (w.heap.size + 1 + 1) 1 (.slice (some ⟨w.heap.size + 3, 0, none⟩) tx.length tx.length) (w.heap.size + 1) (by omega)
  have k2 : (w4.setCell ⟨w.heap.size + 1 + 1, 1, none⟩ (.slice (some ⟨w.heap.size + 3, 0, none⟩) tx.length tx.length)).heap[w.heap.size + 1 + 1]? = some (.cells #[.string ⟨f.toArray⟩, .slice (some ⟨w.heap.size + 3, 0, none⟩) tx.length tx.length, .slice none 0 0] 65) := blk_setk HK2.out 1 (.slice (some ⟨w.heap.size + 3, 0, none⟩) tx.length tx.length)
  have r5 : RowTx (w4.setCell ⟨w.heap.size + 1 + 1, 1, none⟩ (.slice (some ⟨w.heap.size + 3, 0, none⟩) tx.length tx.length)) (w.heap.size + 3) tx := HR4.out.keep (heap_set_other w4 (w.heap.size + 1 + 1) 1 (.slice (some ⟨w.heap.size + 3, 0, none⟩) tx.length tx.length) (w.heap.size + 3) (by omega))
  have b5 : Below w.heap.size w (w4.setCell ⟨w.heap.size + 1 + 1, 1, none⟩ (.slice (some ⟨w.heap.size + 3, 0, none⟩) tx.length tx.length)) := HB4.out.setCell (p := ⟨w.heap.size + 1 + 1, 1, none⟩) (by dsimp only; omega) _
  have z5 : (w4.setCell ⟨w.heap.size + 1 + 1, 1, none⟩ (.slice (some ⟨w.heap.size + 3, 0, none⟩) tx.length tx.length)).heap.size = w4.heap.size := by simp
  rw [hw5] at k0 k1 k2 r5 b5 z5
  try rw [hw5]
  clear hw5
  have HJ0 := hidd (k0.trans HK0.out)
  have HJ1 := hidd (k1.trans HK1.out)
  have HJ2 := hidd k2
  have HR5 := hidd r5
  have HB5 := hidd b5
  clear k0 k1 k2 r5 b5 HK0 HK1 HK2 HR4 HB4 HK c21 f21
  have q2 : w5.cell? ⟨w.heap.size, 2, none⟩ = some (.slice an nz.length cn) := blkc HJ0.out 2
  have HC2 := hidd (toNz_any an cn nz w5 hnl (HZ.out.below HB5.out))
  go_wp2_with fail
  refine HC2.out.mono ?_
  rintro e w6 ⟨rfl, hr6, hb6⟩
  have HR6 := hidd hr6
  have HR6t := hidd (HR5.out.below hb6)
  have HB6 := hidd (HB5.out.trans (hb6.mono HB5.out.size))
  have k1 := blko HJ1.out hb6
  have k2 := blko HJ2.out hb6
  have hz6 := hb6.size
  have c10 := blkc k1 0
  have c11 := blkc k1 1
  have c12 := blkc k1 2
  have c20 := blkc k2 0
  have c21 := blkc k2 1
  have c22 := blkc k2 2
  have f10 := frozen_of_row w6 _ 0 _ _ k1
  have f11 := frozen_of_row w6 _ 1 _ _ k1
  have f12 := frozen_of_row w6 _ 2 _ _ k1
  have f22 := frozen_of_row w6 _ 2 _ _ k2
  clear hr6 hb6 HC2 q2 HJ0 HJ1 HJ2 HR5 HB5 k1 k2
  obtain ⟨G, hG⟩ : ∃ G, w5.heap.size = G := ⟨_, rfl⟩
  rw [hG] at HR6 z5 hz6
  try rw [hG]
  clear hG
  dsimp only
  go_wp2_with fail
  refine bodyPost_ret (v := .agg #[.string ⟨f.toArray⟩, .slice (some ⟨w.heap.size + 3, 0, none⟩) tx.length tx.length, .slice (some ⟨G, 0, none⟩) nz.length nz.length]) (by simp [results, Try.results45, go_sem, *]) rfl ?_
  refine ⟨w.heap.size + 3, G, rfl, by omega, by omega, ?_, ?_, ?_⟩
  · refine HR6t.out.keep ?_
    iterate 4 rw [heap_set_other _ _ _ _ _ (by omega)]
  · refine HR6.out.keep ?_
    iterate 4 rw [heap_set_other _ _ _ _ _ (by omega)]
  · iterate 4 refine Below.setCell ?_ (by dsimp only; omega) _
    exact HB6.out
end Go.Proofs.Ytefhmbnhhkgifaa
