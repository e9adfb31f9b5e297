import Derived.Test.YtecbjhakkebdmadDoorEncP
import Derived.Test.YtecbjhakkebdmadDoorAid
import Derived.Test.YtecbjhakkebdmadDoorLeafI
import Derived.Test.YtecbjhakkebdmadDoorShelf
import Derived.Test.YtecbjhakkebdmadDoorRune
import Derived.BigCall
namespace Go.Proofs.YtecbjhakkebdmadDoor
open Go Go.RowKit

set_option maxHeartbeats 1000000 in
theorem implEncode_any (b off n cap : Nat) (zs : List Int) (w : World) (hn : n ≤ 1048576) (hl : zs.length = n) (hb : b < w.heap.size)
    (hc : ∀ t, t < n → w.cell? ⟨b, off + t, none⟩ = some (.int .i64 (zs.getD t 0))) :
    Calls Tryd.prog 7 #[.slice (some ⟨b, off, none⟩) n cap] w fun e w' => e = .returned (.tuple #[.string ⟨(ansText zs).toArray⟩, .int .i64 (ansCode zs)]) ∧ Below w.heap.size w w' := by
  by_cases hlong : 65536 < n
  · have HT : Hid (ansText zs = []) := by show _ = _; unfold ansText; rw [if_pos (by omega)]
    have HC : Hid (ansCode zs = 2) := by show _ = _; unfold ansCode; rw [if_pos (by omega)]
    have hlz : (65536 : Int) < (n : Int) := by omega
    go_enter Tryd.func7, Tryd.ntmps7
    go_wp2
    go_ret2
    rw [HT.out, HC.out]
    exact ⟨rfl, Below.refl _ _⟩
  · have hlz : ¬ (65536 : Int) < (n : Int) := by omega
    go_enter Tryd.func7, Tryd.ntmps7
    go_wp2
    go_loop [4, 15] (fun z i => ∃ k : Nat, k ≤ n ∧ i = .int .i64 k ∧ (zs.take k).all chr = true ∧ z = .int .i64 ((encs (zs.take k)).length : Nat)) (fun _ i => n - (intOf i).toNat)
    case atStart => exact ⟨0, Nat.zero_le _, rfl, by simp, by simp [encs]⟩
    case round =>
      obtain ⟨k, hk, rfl, hall, rfl⟩ := hrel
      have hle : (encs (zs.take k)).length ≤ 4 * n := by have := encs_le (zs.take k); rw [List.length_take] at this; omega
      by_cases hlt : k < n
      · have g1 := hc k hlt
        have HA : Hid ((zs.take k).all chr = true) := hall
        have hkz : k < zs.length := by omega
        have eg : Hid (zs.getD k 0 = zs[k]) := by show _ = _; simp [hkz]
        clear hall hc
        rw [eg.out] at g1
        by_cases hch : chr zs[k] = true
        · have hbd := (chr_iff _).1 hch
          obtain ⟨hb0, hb1, hb2⟩ := hbd
          have hrl := encodeRune_length zs[k]
          have HL := hidd (runeLen_eq zs[k] hch)
          have Hts : Hid (zs.take (k + 1) = zs.take k ++ [zs[k]]) := by show _ = _; rw [take_snoc zs k hkz, eg.out]
          go_wp2_with fail
          refine (isCharacter_any _ _).mono ?_
          rintro e w' ⟨rfl, rfl⟩
          go_wp2_with fail
          refine (Tryd.utf8_RuneLen _ _).mono ?_
          rintro e w' ⟨rfl, rfl⟩
          rw [HL.out]
          go_wp2
          go_round
          case rel =>
            refine ⟨k + 1, by omega, by go_num, by rw [all_take_succ zs k hkz, HA.out, eg.out, hch]; rfl, ?_⟩
            rw [Hts.out, encs_snoc, List.length_append]
            go_num
          case measure => simp [intOf]; omega
        · have hch' : chr zs[k] = false := by simpa using hch
          have HN := not_all zs k hkz (by rw [eg.out]; exact hch')
          have HT : Hid (ansText zs = []) := by show _ = _; unfold ansText; rw [if_neg (by omega), if_neg (by rw [HN]; simp)]
          have HC : Hid (ansCode zs = 1) := by show _ = _; unfold ansCode; rw [if_neg (by omega), if_neg (by rw [HN]; simp)]
          clear HN hch
          go_wp2_with (go_at_call 20; refine (isCharacter_any _ _).mono ?_; rintro e w' ⟨rfl, rfl⟩)
          go_ret2
          rw [HT.out, HC.out]
          exact ⟨rfl, Below.refl _ _⟩
      · have hkn : k = n := by omega
        have HA : Hid (zs.all chr = true) := by show _ = _; rw [hkn, List.take_of_length_le (by omega)] at hall; exact hall
        have et : zs.take k = zs := by rw [hkn, List.take_of_length_le (by omega)]
        rw [et] at hle ⊢
        clear hall et hkn
        by_cases hlen : 65536 < (encs zs).length
        · have HT : Hid (ansText zs = []) := by show _ = _; unfold ansText; rw [if_neg (by omega), if_pos HA.out, if_pos hlen]
          have HC : Hid (ansCode zs = 2) := by show _ = _; unfold ansCode; rw [if_neg (by omega), if_pos HA.out, if_pos hlen]
          have hlz2 : (65536 : Int) < ((encs zs).length : Int) := by omega
          clear hc
          go_wp2
          go_ret2
          rw [HT.out, HC.out]
          exact ⟨rfl, Below.refl _ _⟩
        · have HT : Hid (ansText zs = encs zs) := by show _ = _; unfold ansText; rw [if_neg (by omega), if_pos HA.out, if_neg hlen]
          have HC : Hid (ansCode zs = 0) := by show _ = _; unfold ansCode; rw [if_neg (by omega), if_pos HA.out, if_neg hlen]
          have hlz2 : ¬ (65536 : Int) < ((encs zs).length : Int) := by omega
          have Hc := hidd hc
          clear hc
          go_wp2_with fail
          refine (Tryd.Builder_Grow_fresh w.heap.size w.heap.size (encs zs).length _ (Nat.le_refl _) (by exact heap_alloc_new _ _) (by simp) (by omega)).mono ?_
          rintro e w1 ⟨rfl, hB1, hb1⟩
          have hbel0 : Below w.heap.size w w1 := ((Below.refl _ _).alloc (Nat.le_refl _) _).trans hb1
          have hI0 : Lib.IsBuilderF 48 5 w.heap.size w.heap.size [] w1 := Lib.IsBuilderF.of (Or.inr hB1)
          clear hB1 hb1
          go_wp2
          go_loopw [34] (fun i wr => ∃ k : Nat, k ≤ n ∧ i = .int .i64 k ∧ Lib.IsBuilderF 48 5 w.heap.size w.heap.size (Lib.byteCells (encs (zs.take k))) wr ∧ Below w.heap.size w wr) (fun i _ => n - (intOf i).toNat)
          case atStart => exact ⟨0, Nat.zero_le _, rfl, hI0, hbel0⟩
          case round =>
            obtain ⟨k, hk, rfl, hI, hbel⟩ := hrel
            have hle2 : (encs (zs.take k)).length ≤ (encs zs).length := encs_take_le zs k
            by_cases hlt : k < n
            · have g1 := (hbel.cell (p := ⟨b, off + k, none⟩) hb).trans (Hc.out k hlt)
              have hkz : k < zs.length := by omega
              have eg : Hid (zs.getD k 0 = zs[k]) := by show _ = _; simp [hkz]
              rw [eg.out] at g1
              have hch : chr zs[k] = true := by rw [← eg.out]; exact all_at zs HA.out k hkz
              obtain ⟨hb0, hb1, hb2⟩ := (chr_iff _).1 hch
              have Hts : Hid (zs.take (k + 1) = zs.take k ++ [zs[k]]) := by show _ = _; rw [take_snoc zs k hkz, eg.out]
              clear hch hI0 hbel0
              go_wp2_with fail
              refine (Tryd.Builder_WriteRune_k w.heap.size w.heap.size _ _ (by omega) (by omega) _ hI (by rw [Lib.byteCells_length]; omega) hbel.size).mono ?_
              rintro e w2 ⟨rfl, h1, b1, k1⟩
              have R : Hid (Lib.IsBuilderF 48 5 w.heap.size w.heap.size (Lib.byteCells (encs (zs.take (k + 1)))) w2 ∧ Below w.heap.size w w2) := by
                refine ⟨?_, hbel.trans b1⟩
                rw [Hts.out, encs_snoc, Lib.byteCells_append, Lib.byteCells_encodeRune]
                exact Or.inr h1
              clear h1 b1 k1 hI
              go_wp2
              go_roundw
              case rel => exact ⟨k + 1, by omega, by go_num, R.out.1, R.out.2⟩
              case measure => simp [intOf]; omega
            · have HK : Hid (zs.take k = zs) := by show _ = _; rw [List.take_of_length_le (by omega)]
              rw [HK.out] at hI
              clear hI0 hbel0
              go_wp2_with fail
              refine (Tryd.Builder_String_any_k w.heap.size w.heap.size (encs zs) _ hI hbel.size).mono ?_
              rintro e w2 ⟨rfl, _, b1, _⟩
              go_wp2
              go_ret2
              rw [HT.out, HC.out]
              exact ⟨rfl, hbel.trans b1⟩
end Go.Proofs.YtecbjhakkebdmadDoor
