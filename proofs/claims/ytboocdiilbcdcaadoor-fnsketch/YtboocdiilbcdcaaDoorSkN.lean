import Derived.Test.YtboocdiilbcdcaaDoorAkR
import Derived.Test.YtboocdiilbcdcaaDoorAkQ
import Derived.Laws.ResultCell
namespace Go.Proofs.YtboocdiilbcdcaaDoor
open Go Go.RowKit
set_option linter.unusedVariables false
set_option linter.unusedSimpArgs false
set_option maxRecDepth 100000

/-! (impl.ranks).numbers. -/
def padZ (l : List Int) : List Int := l ++ List.replicate (256 - l.length) 0
theorem padZ_len (l : List Int) (h : l.length ≤ 256) : (padZ l).length = 256 := by unfold padZ; rw [List.length_append, List.length_replicate]; omega
theorem padZ_nil : padZ [] = List.replicate 256 0 := by unfold padZ; rw [List.nil_append, List.length_nil, Nat.sub_zero]
theorem padZ_full (l : List Int) (h : l.length = 256) : padZ l = l := by unfold padZ; rw [h, Nat.sub_self, List.replicate_zero, List.append_nil]
theorem padZ_set (l : List Int) (k : Nat) (v : Int) (hk : k < 256) (hl : l.length = k) : (padZ l).set k v = padZ (l ++ [v]) := by
  subst hl
  unfold padZ
  obtain ⟨m, hm⟩ : ∃ m, 256 - l.length = m + 1 := ⟨256 - l.length - 1, by omega⟩
  have hm2 : 256 - (l ++ [v]).length = m := by rw [List.length_append, List.length_singleton]; omega
  rw [hm, hm2, List.replicate_succ, List.set_append_right _ _ (Nat.le_refl _), Nat.sub_self, List.set_cons_zero, List.append_assoc]
  rfl
theorem take_snocZ (l : List Int) (k : Nat) (h : k < l.length) : l.take (k + 1) = l.take k ++ [l.getD k 0] := by
  rw [List.take_succ_eq_append_getElem h]; simp [h]
set_option maxHeartbeats 2000000 in
theorem numbers_any (rs : List Int) (w : World) (hl : rs.length = 256) (hr : ∀ i, i < 256 → 0 ≤ rs.getD i 0 ∧ rs.getD i 0 ≤ 255) :
    Calls Tryd.prog 45 #[.agg (ruArr rs)] w fun e w' => e = .returned (.agg (quArr rs)) ∧ Below w.heap.size w w' := by
  have HR0 := hidd hr
  have HL := hidd hl
  clear hr
  go_enter Tryd.func45, Tryd.ntmps45
  go_wp2_with (first | (refine rwpB_box rfl _ rfl rs rfl ?_) | (refine qwpB_alloc rfl rfl ?_) | (refine rwpB_load rfl _ rfl w.heap.size w.heap.size rs rfl (((rBlk.new (Nat.le_refl _) HL.out).alloc _).alloc _) ?_))
  go_loopw [4, 5, 7] (fun _ _ i wr => ∃ k : Nat, k ≤ 256 ∧ i = .int .i64 (k : Int) ∧ qBlk wr w.heap.size (w.heap.size + 1 + 1) (padZ (rs.take k)) ∧ qBlk wr w.heap.size (w.heap.size + 1) qzeros ∧ Below w.heap.size w wr) (fun _ _ i _ => 256 - (intOf i).toNat)
  case atStart =>
    refine ⟨0, by omega, rfl, ?_, ?_, (((Below.refl _ _).alloc (Nat.le_refl _) _).alloc (by simp) _).alloc (by simp; omega) _⟩
    · rw [List.take_zero, padZ_nil]
      have := qBlk.new (w := (w.alloc (.cells (ruArr rs) 50)).alloc (.cells (quArr qzeros) 68)) (base := w.heap.size) (by simp; omega) qzeros_length
      simpa [qzeros] using this
    · have := (qBlk.new (w := w.alloc (.cells (ruArr rs) 50)) (base := w.heap.size) (by simp) qzeros_length).alloc (.cells (quArr qzeros) 68)
      simpa using this
  case round =>
    obtain ⟨k, hk, rfl, hB, hR, hbel⟩ := hrel
    have HB := hidd hB
    have HR := hidd hR
    have Hbel := hidd hbel
    clear hB hR hbel
    by_cases hlt : k < 256
    · have hklt : (k : Int) < 256 := by omega
      obtain ⟨v, hvv⟩ : ∃ v, rs.getD k 0 = v := ⟨_, rfl⟩
      have hb := HR0.out k hlt
      rw [hvv] at hb
      have Hvv := hidd hvv
      have c1 := HB.out.cell k hlt
      have f1 := HB.out.frozen k
      have hw8 : IntKind.i64.wrap v = v := by rw [IntKind.wrap_i64]; omega
      have HSt : Hid ((padZ (rs.take k)).set k v = padZ (rs.take (k + 1))) := by
        show _ = _
        rw [take_snocZ rs k (by rw [HL.out]; exact hlt), hvv]
        exact padZ_set _ k v hlt (by rw [List.length_take, HL.out]; omega)
      generalize (padZ (rs.take k)).getD k 0 = u at *
      clear hvv
      go_wp2_with (refine rwpB_index rfl _ _ rfl rs k v HL.out hlt Hvv.out rfl rfl ?_)
      go_roundw
      case rel =>
        have B1 := HB.out.set k v
        refine ⟨k + 1, by omega, by go_num, ?_, HR.out.kept B1.2 (by simp), Hbel.out.setCell (p := ⟨w.heap.size + 1 + 1, k, none⟩) (by simp; omega) _⟩
        rw [← HSt.out]
        exact B1.1
      case measure => simp [intOf]; omega
    · have hklt : ¬ (k : Int) < 256 := by omega
      have HK : Hid (padZ (rs.take k) = rs) := by show _ = _; rw [List.take_of_length_le (by rw [HL.out]; omega)]; exact padZ_full rs HL.out
      rw [HK.out] at HB
      go_wp2_with (first | (refine qwpB_load rfl _ rfl w.heap.size (w.heap.size + 1 + 1) rs rfl HB.out ?_) | (refine qwpB_store rfl _ _ rfl w.heap.size (w.heap.size + 1) qzeros rs rfl rfl HL.out HR.out ?_; intro W1 hB1 hg1))
      have HB1 := hidd hB1
      have R : Hid (Below w.heap.size w W1) := Hbel.out.grown hg1 Hbel.out.size (fun j e => by cases e; omega)
      clear hB1 hg1
      refine bodyPost_ret (v := .agg (quArr rs)) ?_ rfl ⟨rfl, R.out⟩
      exact results_cell_row rfl _ W1 (w.heap.size + 1) 68 (quArr rs) (0, 0) _ rfl HB1.out.heap Tryd.underlying68 rfl (by rw [quArr_size, HL.out]; exact qblockSize)
end Go.Proofs.YtboocdiilbcdcaaDoor
