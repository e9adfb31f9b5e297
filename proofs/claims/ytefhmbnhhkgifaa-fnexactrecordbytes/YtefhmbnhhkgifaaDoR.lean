import Derived.Test.YtefhmbnhhkgifaaDoQ
import Derived.Test.YtefhmbnhhkgifaaOwn
import Derived.WalkLawsBesides
import Derived.BigQuiet
import Derived.Deep.QuietTactic
import Derived.Deep.RegionWith
namespace Go.Proofs.Ytefhmbnhhkgifaa
open Go Go.RowKit
set_option linter.unusedVariables false
set_option maxRecDepth 100000

set_option maxHeartbeats 4000000 in
theorem toDoc_any (id : List UInt8) (a : Option Addr) (cap : Nat) (V : List Vl) (w : World) (hn : V.length ≤ 1048576) (hA : ∀ i, (V.getD i vl0).1.length ≤ 1048576 ∧ (V.getD i vl0).2.1.length ≤ 1048576 ∧ (V.getD i vl0).2.2.length ≤ 1048576) (h : HoldV w a V) :
    Calls Try.prog 16 #[.agg #[.string ⟨id.toArray⟩, .slice a V.length cap]] w fun e w' => ∃ g, e = .returned (.agg #[.string ⟨id.toArray⟩, .slice (some ⟨g, 0, none⟩) V.length V.length]) ∧ w.heap.size ≤ g ∧ DocAt w' g V ∧ Below w.heap.size w w' := by
  have HH := hidd h
  clear h
  go_enter Try.func16, Try.ntmps16
  go_upto_region 3 with fail
  obtain ⟨W3, hW3⟩ : ∃ W3, ((w.alloc (.cells #[.string ⟨id.toArray⟩, .slice a V.length cap] 24)).alloc (.cells #[.string ⟨#[]⟩, .slice none 0 0] 33)).alloc (.cells #[.string ⟨id.toArray⟩, .slice none 0 0] 33) = W3 := ⟨_, rfl⟩
  have hk0 : W3.heap[w.heap.size]? = some (.cells #[.string ⟨id.toArray⟩, .slice a V.length cap] 24) ∧ W3.heap[w.heap.size + 1]? = some (.cells #[.string ⟨#[]⟩, .slice none 0 0] 33) ∧ W3.heap[w.heap.size + 1 + 1]? = some (.cells #[.string ⟨id.toArray⟩, .slice none 0 0] 33) ∧ W3.heap.size = w.heap.size + 3 := by
    rw [← hW3]
    have h2 := box_two w (.cells #[.string ⟨id.toArray⟩, .slice a V.length cap] 24) (.cells #[.string ⟨#[]⟩, .slice none 0 0] 33)
    refine ⟨?_, ?_, ?_, by simp⟩
    · rw [Below.heap_alloc _ _ _ (by simp; omega)]; exact h2.1
    · rw [Below.heap_alloc _ _ _ (by simp)]; exact h2.2
    · have := heap_alloc_new ((w.alloc (.cells #[.string ⟨id.toArray⟩, .slice a V.length cap] 24)).alloc (.cells #[.string ⟨#[]⟩, .slice none 0 0] 33)) (.cells #[.string ⟨id.toArray⟩, .slice none 0 0] 33)
      simpa using this
  have HB3 : Hid (Below w.heap.size w W3) := by
    show Below _ _ _
    rw [← hW3]
    exact (((Below.refl _ _).alloc (Nat.le_refl _) _).alloc (by simp) _).alloc (by simp; omega) _
  try rw [hW3]
  clear hW3
  have HK := hidd hk0
  clear hk0
  have q1 : W3.cell? ⟨w.heap.size, 1, none⟩ = some (.slice a V.length cap) := blkc HK.out.1 1
  have HT := hidd (toVals_any a cap V W3 hn hA (HH.out.below HB3.out))
  clear hA
  go_wp2_with fail
  refine HT.out.mono ?_
  rintro e w4 ⟨rfl, hd4, hb4⟩
  have HD := hidd hd4
  have hz3 := HK.out.2.2.2
  have k1 := blko HK.out.2.1 hb4
  have k2 := blko HK.out.2.2.1 hb4
  have HB4 := hidd (HB3.out.trans (hb4.mono HB3.out.size))
  have c10 := blkc k1 0
  have c11 := blkc k1 1
  have c20 := blkc k2 0
  have c21 := blkc k2 1
  have f10 := frozen_of_row w4 _ 0 _ _ k1
  have f11 := frozen_of_row w4 _ 1 _ _ k1
  have f21 := frozen_of_row w4 _ 1 _ _ k2
  clear hd4 hb4 HB3 q1 HT
  rw [hz3] at HD
  try rw [hz3]
  clear k1 k2 HK
  dsimp only
  go_wp2_with fail
  refine bodyPost_ret (v := .agg #[.string ⟨id.toArray⟩, .slice (some ⟨w.heap.size + 3, 0, none⟩) V.length V.length]) (by simp [results, Try.results16, go_sem, *]) rfl ?_
  refine ⟨w.heap.size + 3, rfl, by omega, ?_, ?_⟩
  · iterate 3 refine DocAt.set ?_ _ _ _ (by omega)
    exact HD.out
  · iterate 3 refine Below.setCell ?_ (by dsimp only; omega) _
    exact HB4.out
set_option maxHeartbeats 1000000 in
theorem eqTx_any (a1 a2 : Option Addr) (c1 c2 : Nat) (l : List (List UInt8)) (w : World) (hn : l.length ≤ 1048576) (h1 : HoldTx w a1 l) (h2 : HoldTx w a2 l) :
    Calls Try.prog 55 #[.slice a1 l.length c1, .slice a2 l.length c2] w fun e w' => e = .returned (.bool true) ∧ Below w.heap.size w w' := by
  have H1 := hidd h1
  have H2 := hidd h2
  clear h1 h2
  go_enter Try.func55, Try.ntmps55
  go_wp2
  go_loopw [5] (fun i wr => ∃ k : Nat, k ≤ l.length ∧ i = .int .i64 k ∧ Below w.heap.size w wr) (fun i _ => l.length - (intOf i).toNat)
  case atStart => exact ⟨0, Nat.zero_le _, rfl, Below.refl _ _⟩
  case round =>
    obtain ⟨k, hk, rfl, hbel⟩ := hrel
    have HB := hidd hbel
    by_cases hlt : k < l.length
    · obtain ⟨b1, o1, rfl, hb1, hc1⟩ := (H1.out.below hbel).resolve_left (fun h => by rw [h] at hlt; simp at hlt)
      obtain ⟨b2, o2, rfl, hb2, hc2⟩ := (H2.out.below hbel).resolve_left (fun h => by rw [h] at hlt; simp at hlt)
      have g1 := hc1 k hlt
      have g2 := hc2 k hlt
      clear hc1 hc2 hbel
      generalize l.getD k [] = t at g1 g2
      go_wp2
      go_quiet (fail)
      go_wp2
      go_roundw
      case rel => exact ⟨k + 1, by omega, by go_num, below_drewN HB.out _⟩
      case measure => simp [intOf]; omega
    · clear hbel
      go_wp2
      go_ret
      exact ⟨rfl, HB.out⟩
set_option maxHeartbeats 1000000 in
theorem eqNz_any (a1 a2 : Option Addr) (c1 c2 : Nat) (l : List Int) (w : World) (hn : l.length ≤ 1048576) (h1 : HoldZ w a1 l) (h2 : HoldZ w a2 l) :
    Calls Try.prog 56 #[.slice a1 l.length c1, .slice a2 l.length c2] w fun e w' => e = .returned (.bool true) ∧ Below w.heap.size w w' := by
  have H1 := hidd h1
  have H2 := hidd h2
  clear h1 h2
  go_enter Try.func56, Try.ntmps56
  go_wp2
  go_loopw [5] (fun i wr => ∃ k : Nat, k ≤ l.length ∧ i = .int .i64 k ∧ Below w.heap.size w wr) (fun i _ => l.length - (intOf i).toNat)
  case atStart => exact ⟨0, Nat.zero_le _, rfl, Below.refl _ _⟩
  case round =>
    obtain ⟨k, hk, rfl, hbel⟩ := hrel
    have HB := hidd hbel
    by_cases hlt : k < l.length
    · obtain ⟨b1, o1, rfl, hb1, hc1⟩ := (H1.out.below hbel).resolve_left (fun h => by rw [h] at hlt; simp at hlt)
      obtain ⟨b2, o2, rfl, hb2, hc2⟩ := (H2.out.below hbel).resolve_left (fun h => by rw [h] at hlt; simp at hlt)
      have g1 := hc1 k hlt
      have g2 := hc2 k hlt
      clear hc1 hc2 hbel
      generalize l.getD k 0 = t at g1 g2
      go_wp2
      go_quiet (fail)
      go_wp2
      go_roundw
      case rel => exact ⟨k + 1, by omega, by go_num, below_drewN HB.out _⟩
      case measure => simp [intOf]; omega
    · clear hbel
      go_wp2
      go_ret
      exact ⟨rfl, HB.out⟩
end Go.Proofs.Ytefhmbnhhkgifaa
