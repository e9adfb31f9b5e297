import Derived.Test.YtefhmbnhhkgifaaDpM
import Derived.Test.YtefhmbnhhkgifaaDoW
import Derived.Test.YtefhmbnhhkgifaaRbZ
namespace Go.Proofs.Ytefhmbnhhkgifaa
open Go Go.RowKit
set_option linter.unusedVariables false
set_option linter.unusedSimpArgs false
set_option maxRecDepth 100000

def szRec (id : List UInt8) (d : Dc) : Int := if (1048576 : Int) - (id.length : Int) < 0 then -1 else szDcL (1048576 - (id.length : Int)) d
theorem szDcL_ge (left : Int) (d : Dc) : 0 ≤ left → -1 ≤ szDcL left d := fun h => by
  unfold szDcL
  split
  · omega
  · exact (szVs_le _ _ (by omega)).1
set_option maxHeartbeats 4000000 in
theorem szRecord_any (kd sq : Int) (id did : List UInt8) (a : Option Addr) (cap : Nat) (V : List Vl) (w : World) (hi : id.length ≤ 9223372036854775807) (hdi : did.length ≤ 9223372036854775807) (hn : V.length ≤ 9223372036854775807) (hA : ∀ i, VlLen (V.getD i vl0)) (hS : HoldV w a V) :
    Calls Try.prog 4 #[.agg #[.int .i64 kd, .int .i64 sq, .string ⟨id.toArray⟩, .string ⟨did.toArray⟩, .slice a V.length cap], .int .i64 1048576] w fun e w' => e = .returned (.int .i64 (szRec id (did, V))) ∧ Below w.heap.size w w' := by
  have HBa := hidd ((Below.refl w.heap.size w).alloc (Nat.le_refl _) (.cells #[.int .i64 kd, .int .i64 sq, .string ⟨id.toArray⟩, .string ⟨did.toArray⟩, .slice a V.length cap] 26))
  have HS := hidd hS
  have hfl : (⟨id.toArray⟩ : ByteArray).size = id.length := by rw [Lib.size_eq]
  have HD := hidd (fun (left : Int) (W : World) (h0 : 0 ≤ left) (h1 : left ≤ 1048576) (hW : HoldV W a V) => szDoc_any did a cap V left W h0 h1 hdi hn hA hW)
  clear hS hA
  have HR : Hid (szRec id (did, V) = if (1048576 : Int) - (id.length : Int) < 0 then -1 else szDcL (1048576 - (id.length : Int)) (did, V)) := rfl
  go_enter Try.func4, Try.ntmps4
  by_cases hf : (1048576 : Int) - (id.length : Int) < 0
  · rw [if_pos hf] at HR
    go_wp2_with fail
    go_ret
    rw [HR.out]
    exact ⟨rfl, HBa.out⟩
  · rw [if_neg hf] at HR
    have hge := szDcL_ge (1048576 - (id.length : Int)) (did, V) (by omega)
    have HD2 := hidd (fun (W : World) (hW : HoldV W a V) => HD.out (1048576 - (id.length : Int)) W (by omega) (by omega) hW)
    obtain ⟨X, hX⟩ : ∃ X, szDcL (1048576 - (id.length : Int)) (did, V) = X := ⟨_, rfl⟩
    rw [hX] at HR hge HD2
    clear hX HD
    go_wp2_with fail
    refine (HD2.out _ (HS.out.below HBa.out)).mono ?_
    rintro e w3 ⟨rfl, hb3⟩
    have HB3 := hidd (HBa.out.trans (hb3.mono HBa.out.size))
    clear hb3
    dsimp only
    by_cases hX : X < 0
    · obtain rfl : X = -1 := by omega
      go_wp2_with fail
      go_ret
      rw [HR.out]
      exact ⟨rfl, HB3.out⟩
    · go_wp2_with fail
      go_ret
      rw [HR.out]
      exact ⟨rfl, HB3.out⟩
set_option maxHeartbeats 4000000 in
theorem toRecord_any (kd sq : Int) (id did : List UInt8) (a : Option Addr) (cap : Nat) (V : List Vl) (w : World) (hn : V.length ≤ 1048576) (hA : ∀ i, (V.getD i vl0).1.length ≤ 1048576 ∧ (V.getD i vl0).2.1.length ≤ 1048576 ∧ (V.getD i vl0).2.2.length ≤ 1048576) (h : HoldV w a V) :
    Calls Try.prog 6 #[.agg #[.int .i64 kd, .int .i64 sq, .string ⟨id.toArray⟩, .string ⟨did.toArray⟩, .slice a V.length cap]] w fun e w' => ∃ g, e = .returned (.agg #[.int .i64 kd, .int .i64 sq, .string ⟨id.toArray⟩, .string ⟨did.toArray⟩, .slice (some ⟨g, 0, none⟩) V.length V.length]) ∧ w.heap.size ≤ g ∧ DocAt w' g V ∧ Below w.heap.size w w' := by
  have HH := hidd h
  clear h
  go_enter Try.func6, Try.ntmps6
  go_upto_region 5 with fail
  obtain ⟨W3, hW3⟩ : ∃ W3, ((w.alloc (.cells #[.int .i64 kd, .int .i64 sq, .string ⟨id.toArray⟩, .string ⟨did.toArray⟩, .slice a V.length cap] 26)).alloc (.cells #[.int .i64 0, .int .i64 0, .string ⟨#[]⟩, .string ⟨#[]⟩, .slice none 0 0] 35)).alloc (.cells #[.int .i64 kd, .int .i64 sq, .string ⟨id.toArray⟩, .string ⟨#[]⟩, .slice none 0 0] 35) = W3 := ⟨_, rfl⟩
  have hk0 : W3.heap[w.heap.size]? = some (.cells #[.int .i64 kd, .int .i64 sq, .string ⟨id.toArray⟩, .string ⟨did.toArray⟩, .slice a V.length cap] 26) ∧ W3.heap[w.heap.size + 1]? = some (.cells #[.int .i64 0, .int .i64 0, .string ⟨#[]⟩, .string ⟨#[]⟩, .slice none 0 0] 35) ∧ W3.heap[w.heap.size + 1 + 1]? = some (.cells #[.int .i64 kd, .int .i64 sq, .string ⟨id.toArray⟩, .string ⟨#[]⟩, .slice none 0 0] 35) ∧ W3.heap.size = w.heap.size + 3 := by
    rw [← hW3]
    have h2 := box_two w (.cells #[.int .i64 kd, .int .i64 sq, .string ⟨id.toArray⟩, .string ⟨did.toArray⟩, .slice a V.length cap] 26) (.cells #[.int .i64 0, .int .i64 0, .string ⟨#[]⟩, .string ⟨#[]⟩, .slice none 0 0] 35)
    refine ⟨?_, ?_, ?_, by simp⟩
    · rw [Below.heap_alloc _ _ _ (by simp; omega)]; exact h2.1
    · rw [Below.heap_alloc _ _ _ (by simp)]; exact h2.2
    · have := heap_alloc_new ((w.alloc (.cells #[.int .i64 kd, .int .i64 sq, .string ⟨id.toArray⟩, .string ⟨did.toArray⟩, .slice a V.length cap] 26)).alloc (.cells #[.int .i64 0, .int .i64 0, .string ⟨#[]⟩, .string ⟨#[]⟩, .slice none 0 0] 35)) (.cells #[.int .i64 kd, .int .i64 sq, .string ⟨id.toArray⟩, .string ⟨#[]⟩, .slice none 0 0] 35)
      simpa using this
  have HB3 : Hid (Below w.heap.size w W3) := by
    show Below _ _ _
    rw [← hW3]
    exact (((Below.refl _ _).alloc (Nat.le_refl _) _).alloc (by simp) _).alloc (by simp; omega) _
  try rw [hW3]
  clear hW3
  have HK := hidd hk0
  clear hk0
  have q3 : W3.cell? ⟨w.heap.size, 3, none⟩ = some (.string ⟨did.toArray⟩) := blkc HK.out.1 3
  have q4 : W3.cell? ⟨w.heap.size, 4, none⟩ = some (.slice a V.length cap) := blkc HK.out.1 4
  have HT := hidd (toDoc_any did a cap V W3 hn hA (HH.out.below HB3.out))
  clear hA
  go_wp2_with fail
  refine HT.out.mono ?_
  rintro e w4 ⟨g, rfl, hg, hd4, hb4⟩
  have HD := hidd hd4
  have hz3 := HK.out.2.2.2
  have k1 := blko HK.out.2.1 hb4
  have k2 := blko HK.out.2.2.1 hb4
  have HB4 := hidd (HB3.out.trans (hb4.mono HB3.out.size))
  have c10 := blkc k1 0
  have c11 := blkc k1 1
  have c12 := blkc k1 2
  have c13 := blkc k1 3
  have c14 := blkc k1 4
  have c20 := blkc k2 0
  have c21 := blkc k2 1
  have c22 := blkc k2 2
  have c23 := blkc k2 3
  have c24 := blkc k2 4
  have f10 := frozen_of_row w4 _ 0 _ _ k1
  have f11 := frozen_of_row w4 _ 1 _ _ k1
  have f12 := frozen_of_row w4 _ 2 _ _ k1
  have f13 := frozen_of_row w4 _ 3 _ _ k1
  have f14 := frozen_of_row w4 _ 4 _ _ k1
  have f23 := frozen_of_row w4 _ 3 _ _ k2
  have f24 := frozen_of_row w4 _ 4 _ _ k2
  have Hg : Hid (w.heap.size + 3 ≤ g) := by show _ ≤ _; omega
  clear hd4 hb4 HB3 q3 q4 HT hz3 hg
  clear k1 k2 HK
  dsimp only
  go_wp2_with fail
  refine bodyPost_ret (v := .agg #[.int .i64 kd, .int .i64 sq, .string ⟨id.toArray⟩, .string ⟨did.toArray⟩, .slice (some ⟨g, 0, none⟩) V.length V.length]) (by simp [results, Try.results6, go_sem, *]) rfl ?_
  have hg := Hg.out
  refine ⟨g, rfl, by omega, ?_, ?_⟩
  · iterate 7 refine DocAt.set ?_ _ _ _ (by omega)
    exact HD.out
  · iterate 7 refine Below.setCell ?_ (by dsimp only; omega) _
    exact HB4.out
set_option maxHeartbeats 1000000 in
theorem eqRecord_any (kd sq : Int) (id did : List UInt8) (a1 a2 : Option Addr) (c1 c2 : Nat) (V : List Vl) (w : World) (hn : V.length ≤ 1048576) (hA : ∀ i, (V.getD i vl0).1.length ≤ 1048576 ∧ (V.getD i vl0).2.1.length ≤ 1048576 ∧ (V.getD i vl0).2.2.length ≤ 1048576) (h1 : HoldV w a1 V) (h2 : HoldV w a2 V) :
    Calls Try.prog 9 #[.agg #[.int .i64 kd, .int .i64 sq, .string ⟨id.toArray⟩, .string ⟨did.toArray⟩, .slice a1 V.length c1], .agg #[.int .i64 kd, .int .i64 sq, .string ⟨id.toArray⟩, .string ⟨did.toArray⟩, .slice a2 V.length c2]] w fun e w' => e = .returned (.bool true) ∧ Below w.heap.size w w' := by
  have HBa : Hid (Below w.heap.size w ((w.alloc (.cells #[.int .i64 kd, .int .i64 sq, .string ⟨id.toArray⟩, .string ⟨did.toArray⟩, .slice a1 V.length c1] 35)).alloc (.cells #[.int .i64 kd, .int .i64 sq, .string ⟨id.toArray⟩, .string ⟨did.toArray⟩, .slice a2 V.length c2] 35))) := ((Below.refl _ _).alloc (Nat.le_refl _) _).alloc (by simp) _
  have HE := hidd (eqDoc_any did a1 a2 c1 c2 V _ hn hA (h1.below HBa.out) (h2.below HBa.out))
  clear h1 h2 hA
  go_enter Try.func9, Try.ntmps9
  go_wp2_with fail
  refine HE.out.mono ?_
  rintro e w3 ⟨rfl, hb3⟩
  have HB3 := hidd (HBa.out.trans (hb3.mono HBa.out.size))
  clear hb3 HE
  dsimp only
  go_wp2_with fail
  go_ret
  exact ⟨rfl, HB3.out⟩
set_option maxHeartbeats 1000000 in
theorem markRecord_any (kd sq : Int) (id did : List UInt8) (g cap : Nat) (ls : List (Nat × Nat)) (w : World) (hn : ls.length ≤ 1048576) (hl : ∀ i, (ls.getD i (0, 0)).1 ≤ 1048576 ∧ (ls.getD i (0, 0)).2 ≤ 1048576) (h : StrV w g ls) :
    Calls Try.prog 10 #[.agg #[.int .i64 kd, .int .i64 sq, .string ⟨id.toArray⟩, .string ⟨did.toArray⟩, .slice (some ⟨g, 0, none⟩) ls.length cap], .int .i64 1] w fun e w' => ∃ k : Nat, e = .returned (.int .i64 (k : Int)) ∧ ∃ wb, Below w.heap.size w wb ∧ Fv wb w' g := by
  have HB := hidd ((Below.refl w.heap.size w).alloc (Nat.le_refl _) (.cells #[.int .i64 kd, .int .i64 sq, .string ⟨id.toArray⟩, .string ⟨did.toArray⟩, .slice (some ⟨g, 0, none⟩) ls.length cap] 35))
  have HM := hidd (fun (W : World) (hW : StrV W g ls) => markDoc_any did g cap ls W hn hl hW)
  have HS := hidd ((Fv.of HB.out g).str _ _ h)
  clear h hl
  go_enter Try.func10, Try.ntmps10
  go_wp2_with fail
  refine (HM.out _ HS.out).mono ?_
  rintro e w2 ⟨k, rfl, hf⟩
  have HF := hidd hf
  clear hf
  dsimp only
  go_wp2_with fail
  go_ret
  exact ⟨k, rfl, _, HB.out.trans (((Below.refl _ _).alloc (Nat.le_refl _) _).mono HB.out.size), HF.out⟩
end Go.Proofs.Ytefhmbnhhkgifaa
