import Derived.Test.YtebffdfalbjmhaaDoorLeafS
import Derived.Test.YtebffdfalbjmhaaDoorAid
namespace Go.Proofs.YtebffdfalbjmhaaDoor
open Go Go.RowKit
theorem Tryd.infoByte : (Tryd.prog.info? 5).map (fun i => (i.zero, i.size, i.bytes)) = some (some (.int .u8 0), 1, 1) := by kernel_rfl

set_option maxHeartbeats 800000 in
theorem encode_some (b off n cap : Nat) (zs : List Int) (w : World) (hn : n ≤ 65536) (hl : zs.length = n) (hb : b < w.heap.size)
    (hc : ∀ t, t < n → w.cell? ⟨b, off + t, none⟩ = some (.int .i64 (zs.getD t 0))) (hok : ∀ t, t < n → chr (zs.getD t 0) = true) :
    Calls Tryd.prog 11 #[.slice (some ⟨b, off, none⟩) n cap] w fun e w' => e = .returned (.string ⟨(encs zs).toArray⟩) ∧ Below w.heap.size w w' := by
  obtain ⟨i0, hi, hz0, hz1, hz2⟩ := info_parts Tryd.infoByte
  go_enter Tryd.func11, Tryd.ntmps11
  go_wp2
  go_loopw [3, 4] (fun v i wr => ∃ k : Nat, k ≤ n ∧ i = .int .i64 k ∧ wr.ownsRow w.heap.size 5 1 v (encs (zs.take k)).length (Lib.byteCells (encs (zs.take k))) ∧ Below w.heap.size w wr ∧ v ≠ .slice none 0 0) (fun _ i _ => n - (intOf i).toNat)
  case atStart =>
    refine ⟨0, Nat.zero_le _, rfl, ?_, (Below.refl _ _).alloc (Nat.le_refl _) _, by simp⟩
    simpa [encs, Lib.byteCells] using (World.ownsRow_lit (base := w.heap.size) (e := 5) (size := 1) w #[] 0 (Nat.le_refl _) (by unfold maxLen; omega) (by simp))
  case round =>
    obtain ⟨k, hk, rfl, hown, hbel, hnn⟩ := hrel
    by_cases hlt : k < n
    · have g1 := (hbel.cell (p := ⟨b, off + k, none⟩) hb).trans (hc k hlt)
      have hok1 := hok k hlt
      have hkz : k < zs.length := by omega
      have eg : zs.getD k 0 = zs[k] := by simp [hkz]
      rw [eg] at hok1 g1
      have Hts : Hid (zs.take (k + 1) = zs.take k ++ [zs[k]]) := by show _ = _; rw [take_snoc zs k hkz, eg]
      have hle : (encs (zs.take k)).length ≤ 4 * n := by have := encs_le (zs.take k); rw [List.length_take] at this; omega
      have hrl := Lib.runeCells_le zs[k]
      clear hc hok eg
      go_wp2_with fail
      refine (bytes_any zs[k] _ hok1).mono ?_
      rintro e w1 ⟨rfl, rfl⟩
      have hcr : Hid (∀ j u, (Lib.runeCells zs[k])[j]? = some u → (wr.alloc (.cells (Lib.runeCells zs[k]).toArray 5)).cell? ((⟨wr.heap.size, 0, none⟩ : Addr).add j) = some u) := by
        intro j u hj
        rw [add_head, World.cell?_alloc_at (hn := rfl)]
        simpa using hj
      go_wp2_with (at_builtin; refine wpList_append_own _ rfl (.tmp 12) (.tmp 17) 43 rfl w.heap.size 5 i0 (.int .u8 0) 1 1 Tryd.underlying43 hi hz0 hz1 hz2 rfl (by decide) _ _ _ rfl (hown.alloc _) ⟨wr.heap.size, 0, none⟩ _ _ (Lib.runeCells zs[k]) rfl (by simp) ?c1 ?c2 ?c3 ?c4 ?c5 ?_)
      case c1 => exact hcr.out
      case c2 => exact rune_one _
      case c3 => unfold maxLen; omega
      case c4 => omega
      case c5 => have := hbel.size; simp; omega
      intro v' w2 hown' hgrow hne
      have R : Hid (w2.ownsRow w.heap.size 5 1 v' (encs (zs.take (k + 1))).length (Lib.byteCells (encs (zs.take (k + 1)))) ∧ Below w.heap.size w w2) := by
        refine ⟨?_, (hbel.alloc hbel.size _).grown hgrow (by have := hbel.size; simp; omega) ?_⟩
        · rw [Hts.out, encs_snoc, Lib.byteCells_append, Lib.byteCells_encodeRune, List.length_append, ← Lib.runeCells_length]
          exact hown'
        · intro g hg
          rcases hown.2 with ⟨h, _⟩ | ⟨g', cap', cur, h, hbase, _⟩
          · exact absurd h hnn
          · rw [h] at hg; cases hg; exact hbase
      clear hown' hgrow hcr
      go_wp2
      go_roundw
      case rel => exact ⟨k + 1, by omega, by go_num, R.out.1, R.out.2, hne⟩
      case measure => simp [intOf]; omega
    · have HK : Hid (k = n) := by show k = n; omega
      have hcb : Hid (∃ g cap', u3 = .slice (some ⟨g, 0, none⟩) (encs (zs.take k)).length cap') := by
        rcases hown.2 with ⟨h, _⟩ | ⟨g, cap', _, h, _⟩
        · exact absurd h hnn
        · exact ⟨g, cap', h⟩
      obtain ⟨g, cap', rfl⟩ := hcb.out
      have hcv : (convert 43 9 (.slice (some ⟨g, 0, none⟩) (encs (zs.take k)).length cap')).run Tryd.prog wr = .ok (.string ⟨(encs (zs.take k)).toArray⟩) wr := by
        refine run_convert_bytes_back wr 43 9 5 ⟨g, 0, none⟩ cap' (encs (zs.take k)) Tryd.underlying43 Tryd.underlying5 Tryd.underlying9 fun j hj => ?_
        rw [add_head, hown.cellAt j (by omega)]
        simp [Lib.byteCells, hj]
      go_wp2
      go_ret
      refine ⟨?_, hbel⟩
      rw [HK.out, List.take_of_length_le (by omega)]
      rfl
end Go.Proofs.YtebffdfalbjmhaaDoor
