import Derived.Test.YtjndogajdlophaaDoS
namespace Go.Proofs.Ytjndogajdlophaa
open Go Go.RowKit
set_option linter.unusedVariables false
set_option maxRecDepth 100000

/-- What both sides' DocBytes keep to. -/
def DocC (f : Nat) : Prop := ∀ (id : List UInt8) (a : Option Addr) (c : Nat) (V : List Vl) (w : World), id.length ≤ 1048576 → V.length ≤ 1048576 → (∀ i, (V.getD i vl0).1.length ≤ 1048576 ∧ (V.getD i vl0).2.1.length ≤ 1048576 ∧ (V.getD i vl0).2.2.length ≤ 1048576) → HoldV w a V →
  Calls Try.prog f #[.agg #[.string ⟨id.toArray⟩, .slice a V.length c]] w fun e w' => ∃ v, e = .returned (.tuple #[v, .int .i64 (docO (id, V)).2]) ∧ w'.ownsRow w.heap.size 5 1 v (docO (id, V)).1.length (Lib.byteCells (docO (id, V)).1) ∧ Below w.heap.size w w'
set_option maxHeartbeats 4000000 in
theorem specDoc_any : DocC 19 := by
  intro id a c V w hid hn hT hV
  have HV := hidd hV
  have HF := hidd (fun W (hW : Below w.heap.size w W) => specFits_any id a c V W hn (fun i => (hT i).2) (hV.below hW))
  clear hV hT
  have HBa := hidd ((Below.refl w.heap.size w).alloc (Nat.le_refl _) (.cells #[.string ⟨id.toArray⟩, .slice a V.length c] 50))
  have Hbx := hidd (heap_alloc_new w (.cells #[.string ⟨id.toArray⟩, .slice a V.length c] 50))
  go_enter Try.func19, Try.ntmps19
  go_wp2_with fail
  refine (HF.out _ HBa.out).mono ?_
  rintro e w1 ⟨rfl, hb1⟩
  have HB1 := hidd (HBa.out.trans (hb1.mono HBa.out.size))
  have Hbx1 := hidd (blko Hbx.out hb1)
  clear hb1 Hbx
  dsimp only
  cases hok : dcOK (id, V) with
  | true =>
    have HO : Hid (docO (id, V) = (dcB (id, V), 0)) := by show _ = _; rw [docO, hok]; rfl
    have HL := hidd (specDocB_any id a c V w1 hok (HV.out.below HB1.out))
    clear hok
    have b0 := blkc Hbx1.out 0
    have b1 := blkc Hbx1.out 1
    go_wp2_with fail
    refine HL.out.mono ?_
    rintro e w2 ⟨v2, rfl, hown2, hb2⟩
    have HB2 := hidd (HB1.out.trans (hb2.mono HB1.out.size))
    have HO2 := hidd hown2
    clear hown2 hb2 HL
    dsimp only
    go_wp2_with fail
    go_ret2
    exact ⟨_, by rw [HO.out]; rfl, by rw [HO.out]; exact own_mono HO2.out HB1.out.size, HB2.out⟩
  | false =>
    have HO : Hid (docO (id, V) = ([], 12)) := by show _ = _; rw [docO, hok]; rfl
    clear hok
    have hz := HB1.out.size
    go_wp2_with fail
    go_ret2
    exact ⟨_, by rw [HO.out]; rfl, by rw [HO.out]; exact own_mono (own_empty w1 5) hz, HB1.out.alloc hz _⟩
end Go.Proofs.Ytjndogajdlophaa
