import Derived.Test.YtecbjhakkebdmaiLeaf
import Derived.Test.YtecbjhakkebdmaiLists
namespace Go.Proofs.Ytecbjhakkebdmai
open Go Go.RowKit
theorem Try.info5 : (Try.prog.info? 5).map (fun i => (i.zero, i.size, i.bytes)) = some (some (.int .u8 0), 1, 1) := by kernel_rfl

theorem hidd {p : Prop} (h : p) : Hid p := h
theorem add_head (g j : Nat) : (⟨g, 0, none⟩ : Addr).add j = ⟨g, j, none⟩ := by
  unfold Addr.add
  by_cases h : j = 0
  · subst h; simp
  · simp [h]
theorem rune_one (r : Int) : ∀ u ∈ Lib.runeCells r, u.oneCell' = true := by
  intro u hu
  simp only [Lib.runeCells, List.mem_map] at hu
  obtain ⟨x, _, rfl⟩ := hu
  rfl

set_option maxHeartbeats 800000 in
theorem encode_some (b off n cap : Nat) (zs : List Int) (w : World) (hn : n ≤ 65536) (hl : zs.length = n) (hb : b < w.heap.size)
    (hc : ∀ t, t < n → w.cell? ⟨b, off + t, none⟩ = some (.int .i64 (zs.getD t 0))) (hok : ∀ t, t < n → chr (zs.getD t 0) = true) :
    Calls Try.prog 15 #[.slice (some ⟨b, off, none⟩) n cap] w fun e w' => e = .returned (.string ⟨(encs zs).toArray⟩) ∧ Below w.heap.size w w' := by
  obtain ⟨i0, hi, hz0, hz1, hz2⟩ := info_parts Try.info5
  go_enter Try.func15, Try.ntmps15
  go_wp2
  go_loopw [3, 4] (fun v i wr => ∃ k : Nat, k ≤ n ∧ i = .int .i64 k ∧ wr.ownsRow w.heap.size 5 1 v (encs (zs.take k)).length (Lib.byteCells (encs (zs.take k))) ∧ Below w.heap.size w wr ∧ v ≠ .slice none 0 0) (fun _ i _ => n - (intOf i).toNat)
  case atStart =>
    refine ⟨0, Nat.zero_le _, rfl, ?_, (Below.refl _ _).alloc (Nat.le_refl _) _, by simp⟩
    simpa [encs, Lib.byteCells] using (World.ownsRow_lit (base := w.heap.size) (e := 5) (size := 1) w #[] 0 (Nat.le_refl _) (by unfold maxLen; omega) (by simp))
  case round =>
    obtain ⟨k, hk, rfl, hown, hbel, hnn⟩ := hrel
    by_cases hlt : k < n
    · have g1 := (hbel.cell (p := ⟨b, off + k, none⟩) hb).trans (hc k hlt)
      have hok1 := hok k hlt
      have hkz : k < zs.length := by omega
      have eg : zs.getD k 0 = zs[k] := by simp [hkz]
      rw [eg] at hok1 g1
      have Hts : Hid (zs.take (k + 1) = zs.take k ++ [zs[k]]) := by show _ = _; rw [take_snoc zs k hkz, eg]
      have hle : (encs (zs.take k)).length ≤ 4 * n := by have := encs_le (zs.take k); rw [List.length_take] at this; omega
      have hrl := Lib.runeCells_le zs[k]
      clear hc hok eg
      go_wp2_with fail
      refine (bytes_any zs[k] _ hok1).mono ?_
      rintro e w1 ⟨rfl, rfl⟩
      have hcr : Hid (∀ j u, (Lib.runeCells zs[k])[j]? = some u → (wr.alloc (.cells (Lib.runeCells zs[k]).toArray 5)).cell? ((⟨wr.heap.size, 0, none⟩ : Addr).add j) = some u) := by
        intro j u hj
        rw [add_head, World.cell?_alloc_at (hn := rfl)]
        simpa using hj
      go_wp2_with (at_builtin; refine wpList_append_own _ rfl (.tmp 12) (.tmp 17) 33 rfl w.heap.size 5 i0 (.int .u8 0) 1 1 Try.underlying33 hi hz0 hz1 hz2 rfl (by decide) _ _ _ rfl (hown.alloc _) ⟨wr.heap.size, 0, none⟩ _ _ (Lib.runeCells zs[k]) rfl (by simp) ?c1 ?c2 ?c3 ?c4 ?c5 ?_)
      case c1 => exact hcr.out
      case c2 => exact rune_one _
      case c3 => unfold maxLen; omega
      case c4 => omega
      case c5 => have := hbel.size; simp; omega
      intro v' w2 hown' hgrow hne
      have R : Hid (w2.ownsRow w.heap.size 5 1 v' (encs (zs.take (k + 1))).length (Lib.byteCells (encs (zs.take (k + 1)))) ∧ Below w.heap.size w w2) := by
        refine ⟨?_, (hbel.alloc hbel.size _).grown hgrow (by have := hbel.size; simp; omega) ?_⟩
        · rw [Hts.out, encs_snoc, Lib.byteCells_append, Lib.byteCells_encodeRune, List.length_append, ← Lib.runeCells_length]
          exact hown'
        · intro g hg
          rcases hown.2 with ⟨h, _⟩ | ⟨g', cap', cur, h, hbase, _⟩
          · exact absurd h hnn
          · rw [h] at hg; cases hg; exact hbase
      clear hown' hgrow hcr
      go_wp2
      go_roundw
      case rel => exact ⟨k + 1, by omega, by go_num, R.out.1, R.out.2, hne⟩
      case measure => simp [intOf]; omega
    · have HK : Hid (k = n) := by show k = n; omega
      have hcb : Hid (∃ g cap', u3 = .slice (some ⟨g, 0, none⟩) (encs (zs.take k)).length cap') := by
        rcases hown.2 with ⟨h, _⟩ | ⟨g, cap', _, h, _⟩
        · exact absurd h hnn
        · exact ⟨g, cap', h⟩
      obtain ⟨g, cap', rfl⟩ := hcb.out
      have hcv : (convert 33 9 (.slice (some ⟨g, 0, none⟩) (encs (zs.take k)).length cap')).run Try.prog wr = .ok (.string ⟨(encs (zs.take k)).toArray⟩) wr := by
        refine run_convert_bytes_back wr 33 9 5 ⟨g, 0, none⟩ cap' (encs (zs.take k)) Try.underlying33 Try.underlying5 Try.underlying9 fun j hj => ?_
        rw [add_head, hown.cellAt j (by omega)]
        simp [Lib.byteCells, hj]
      go_wp2
      go_ret
      refine ⟨?_, hbel⟩
      rw [HK.out, List.take_of_length_le (by omega)]
      rfl

def ansCode (zs : List Int) : Int := if 65536 < zs.length then 2 else if zs.all chr = true then (if 65536 < (encs zs).length then 2 else 0) else 1
def ansText (zs : List Int) : List UInt8 := if 65536 < zs.length then [] else if zs.all chr = true then (if 65536 < (encs zs).length then [] else encs zs) else []

theorem all_take_succ (zs : List Int) (k : Nat) (h : k < zs.length) : (zs.take (k + 1)).all chr = ((zs.take k).all chr && chr (zs.getD k 0)) := by
  rw [take_snoc zs k h]; simp
theorem not_all (zs : List Int) (k : Nat) (h : k < zs.length) (hc : chr (zs.getD k 0) = false) : zs.all chr = false := by
  rw [List.all_eq_false]
  refine ⟨zs[k], List.getElem_mem h, ?_⟩
  have : zs.getD k 0 = zs[k] := by simp [h]
  rw [← this, hc]; simp
theorem all_at (zs : List Int) (h : zs.all chr = true) (t : Nat) (ht : t < zs.length) : chr (zs.getD t 0) = true := by
  have : zs.getD t 0 = zs[t] := by simp [ht]
  rw [this]
  exact List.all_eq_true.1 h _ (List.getElem_mem ht)

set_option maxHeartbeats 800000 in
theorem specEncode_any (b off n cap : Nat) (zs : List Int) (w : World) (hn : n ≤ 1048576) (hl : zs.length = n) (hb : b < w.heap.size)
    (hc : ∀ t, t < n → w.cell? ⟨b, off + t, none⟩ = some (.int .i64 (zs.getD t 0))) :
    Calls Try.prog 6 #[.slice (some ⟨b, off, none⟩) n cap] w fun e w' => e = .returned (.tuple #[.string ⟨(ansText zs).toArray⟩, .int .i64 (ansCode zs)]) ∧ Below w.heap.size w w' := by
  by_cases hlong : 65536 < n
  · have HT : Hid (ansText zs = []) := by show _ = _; unfold ansText; rw [if_pos (by omega)]
    have HC : Hid (ansCode zs = 2) := by show _ = _; unfold ansCode; rw [if_pos (by omega)]
    have hlz : (65536 : Int) < (n : Int) := by omega
    go_enter Try.func6, Try.ntmps6
    go_wp2
    go_ret2
    rw [HT.out, HC.out]
    exact ⟨rfl, Below.refl _ _⟩
  · have hlz : ¬ (65536 : Int) < (n : Int) := by omega
    go_enter Try.func6, Try.ntmps6
    go_wp2
    go_loop [4] (fun i => ∃ k : Nat, k ≤ n ∧ i = .int .i64 k ∧ (zs.take k).all chr = true) (fun i => n - (intOf i).toNat)
    case atStart => exact ⟨0, Nat.zero_le _, rfl, by simp⟩
    case round =>
      obtain ⟨k, hk, rfl, hall⟩ := hrel
      by_cases hlt : k < n
      · have g1 := hc k hlt
        have HA : Hid ((zs.take k).all chr = true) := hall
        have hkz : k < zs.length := by omega
        have eg : Hid (zs.getD k 0 = zs[k]) := by show _ = _; simp [hkz]
        clear hall hc
        rw [eg.out] at g1
        by_cases hch : chr zs[k] = true
        · go_wp2_with (go_at_call 14; refine (charOK_any _ _).mono ?_; rintro e w' ⟨rfl, rfl⟩)
          go_round
          case rel => exact ⟨k + 1, by omega, by go_num, by rw [all_take_succ zs k hkz, HA.out, eg.out, hch]; rfl⟩
          case measure => simp [intOf]; omega
        · have hch' : chr zs[k] = false := by simpa using hch
          have HN := not_all zs k hkz (by rw [eg.out]; exact hch')
          have HT : Hid (ansText zs = []) := by show _ = _; unfold ansText; rw [if_neg (by omega), if_neg (by rw [HN]; simp)]
          have HC : Hid (ansCode zs = 1) := by show _ = _; unfold ansCode; rw [if_neg (by omega), if_neg (by rw [HN]; simp)]
          clear HN hch
          go_wp2_with (go_at_call 14; refine (charOK_any _ _).mono ?_; rintro e w' ⟨rfl, rfl⟩)
          go_ret2
          rw [HT.out, HC.out]
          exact ⟨rfl, Below.refl _ _⟩
      · have hkn : k = n := by omega
        have HA : zs.all chr = true := by rw [hkn, List.take_of_length_le (by omega)] at hall; exact hall
        have HA' : Hid (zs.all chr = true) := HA
        have cE := encode_some b off n cap zs w (by omega) hl hb hc (fun t ht => all_at zs HA t (by omega))
        have HcE := hidd cE
        clear cE HA hall hkn hc
        by_cases hlen : 65536 < (encs zs).length
        · have HT : Hid (ansText zs = []) := by show _ = _; unfold ansText; rw [if_neg (by omega), if_pos HA'.out, if_pos hlen]
          have HC : Hid (ansCode zs = 2) := by show _ = _; unfold ansCode; rw [if_neg (by omega), if_pos HA'.out, if_pos hlen]
          have hlz2 : (65536 : Int) < ((encs zs).length : Int) := by omega
          go_wp2_with fail
          refine HcE.out.mono ?_
          rintro e w1 ⟨rfl, hb1⟩
          go_wp2
          go_ret2
          rw [HT.out, HC.out]
          exact ⟨rfl, hb1⟩
        · have HT : Hid (ansText zs = encs zs) := by show _ = _; unfold ansText; rw [if_neg (by omega), if_pos HA'.out, if_neg hlen]
          have HC : Hid (ansCode zs = 0) := by show _ = _; unfold ansCode; rw [if_neg (by omega), if_pos HA'.out, if_neg hlen]
          have hlz2 : ¬ (65536 : Int) < ((encs zs).length : Int) := by omega
          go_wp2_with fail
          refine HcE.out.mono ?_
          rintro e w1 ⟨rfl, hb1⟩
          go_wp2
          go_ret2
          rw [HT.out, HC.out]
          exact ⟨rfl, hb1⟩
end Go.Proofs.Ytecbjhakkebdmai
