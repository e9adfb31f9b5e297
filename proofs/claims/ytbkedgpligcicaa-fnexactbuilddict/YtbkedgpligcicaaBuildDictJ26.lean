import Derived.Test.YtbkedgpligcicaaBuildDictJ25
import Derived.Test.YtbkedgpligcicaaBuildDictJ14
import Derived.Test.YtbkedgpligcicaaBuildDictJ02
namespace Go.Proofs.Ytbkedgpligcicaa
open Go Go.RowKit
set_option linter.unusedVariables false
set_option maxRecDepth 100000

def kAt (k : Nat) (S : List St) : Nat → Nat
  | 0 => k
  | i + 1 => kAt k S i + 1 + 3 * (arcsAt S i).length
theorem kAt_le {k : Nat} {S : List St} (hA : ∀ i, (arcsAt S i).length ≤ 256) : ∀ i, kAt k S i ≤ k + i * 769
  | 0 => by simp [kAt]
  | i + 1 => by have := kAt_le (k := k) hA i; have := hA i; simp only [kAt]; omega
def mkSt (k : Nat) (S : List St) (j : Nat) : St := (kAt k S j % 3 == 0, mkA (kAt k S j + 1) (arcsAt S j))
def mkS (k : Nat) (S : List St) : List St := S.mapIdx fun j _ => mkSt k S j
theorem mkS_len (k : Nat) (S : List St) : (mkS k S).length = S.length := by simp [mkS]
theorem mkS_at (k : Nat) (S : List St) {j : Nat} (h : j < S.length) : (mkS k S).getD j st0 = mkSt k S j := by simp [mkS, List.getD_eq_getElem?_getD, h]
theorem rem3 (n : Nat) : ((n : Int) % 3 == 0) = (n % 3 == 0) := by
  have : (n : Int) % 3 = ((n % 3 : Nat) : Int) := by omega
  rw [this]
  have h : n % 3 < 3 := Nat.mod_lt _ (by omega)
  generalize n % 3 = m at *
  match m, h with
  | 0, _ => rfl
  | 1, _ => rfl
  | 2, _ => rfl
/-- An answer of which the first i states are written over. -/
structure OvAt (w W : World) (g : Nat) (xs : List Value) (S : List St) (k i : Nat) : Prop where
  but : ButX (fun b => b = g ∨ ∃ j, j < S.length ∧ LiesX xs j b) w W
  rowt : ∃ cur, W.heap[g]? = some (.cells cur 82)
  fins : ∀ j, j < S.length → W.cell? ⟨g, j * 2, none⟩ = some (.bool (if j < i then kAt k S j % 3 == 0 else finAt S j))
  sl : ∀ j, j < S.length → W.cell? ⟨g, j * 2 + 1, none⟩ = xs[j * 2 + 1]?
  arcs : ∀ j, j < S.length → ∀ aj n cj, xs[j * 2 + 1]? = some (.slice aj n cj) → HoldA W aj (if j < i then mkA (kAt k S j + 1) (arcsAt S j) else arcsAt S j)
  typ : ∀ j b, j < S.length → LiesX xs j b → ∃ cur, W.heap[b]? = some (.cells cur 85)
theorem OvAt.start {w : World} {lo hi g n c : Nat} {S : List St} {xs : List Value} (k : Nat) (h : StsAt w lo hi (.slice (some ⟨g, 0, none⟩) n c) S xs) : OvAt w w g xs S k 0 := by
  obtain ⟨_, cur, hc⟩ := own_blk h.row (b := g) rfl
  have hn : n = S.length := by
    rcases h.row.2 with ⟨e, _⟩ | ⟨_, _, _, e, _⟩
    · cases e
    · simp only [Value.slice.injEq] at e; exact e.2.1
  subst hn
  refine ⟨ButX.refl _ _, ⟨cur, hc⟩, fun j hj => ?_, fun j hj => h.row.cellAt (j * 2 + 1) (by omega), fun j hj aj n cj e => ?_, fun j b hj hb => ?_⟩
  · rw [h.row.cellAt (j * 2) (by omega), (h.sts j hj).1, if_neg (by omega)]; rfl
  · obtain ⟨_, a', c', q2, q3, _⟩ := h.sts j hj
    rw [q2] at e
    simp only [Option.some.injEq, Value.slice.injEq] at e
    rw [if_neg (by omega), ← e.1]
    exact q3
  · obtain ⟨_, a', c', q2, _, q4⟩ := h.sts j hj
    obtain ⟨off, n, c, e⟩ := hb
    rw [q2] at e
    simp only [Option.some.injEq, Value.slice.injEq] at e
    exact (q4 b off e.1).2.2
theorem OvAt.apart {w W : World} {g : Nat} {xs : List Value} {S : List St} {k i : Nat} (h : OvAt w W g xs S k i) : ∀ j b, j < S.length → LiesX xs j b → b ≠ g := fun j b hj hb e => by
  obtain ⟨c1, h1⟩ := h.typ j b hj hb
  obtain ⟨c2, h2⟩ := h.rowt
  rw [e] at h1
  exact blk_ne h1 h2 (by decide) rfl
/-- The state i is written over. -/
theorem OvAt.next {w W W' : World} {g : Nat} {xs : List Value} {S : List St} {k i n ci : Nat} {ai : Option Addr} (h : OvAt w W g xs S k i) (hi : i < S.length) (hd : DisX xs S.length) (hx : xs[i * 2 + 1]? = some (.slice ai n ci))
    (hA : HoldA W' ai (mkA (kAt k S i + 1) (arcsAt S i))) (hb : ButX (fun b => ∃ off, ai = some ⟨b, off, none⟩) (W.setCell ⟨g, i * 2, none⟩ (.bool (kAt k S i % 3 == 0))) W') (hT : ∀ b off, ai = some ⟨b, off, none⟩ → ∃ cur, W'.heap[b]? = some (.cells cur 85)) : OvAt w W' g xs S k (i + 1) := by
  obtain ⟨cur, hc⟩ := h.rowt
  have hsz := h.but.size
  have hgl := (Array.getElem?_eq_some_iff.1 hc).1
  have hs := blk_setk hc (i * 2) (.bool (kAt k S i % 3 == 0))
  have hlies : ∀ b off, ai = some ⟨b, off, none⟩ → LiesX xs i b := fun b off e => ⟨off, n, ci, by rw [hx, e]⟩
  have hnx : ¬ ∃ off, ai = some ⟨g, off, none⟩ := fun ⟨off, e⟩ => h.apart i g hi (hlies g off e) rfl
  have hg' : W'.heap[g]? = some (.cells (cur.setIfInBounds (i * 2) (.bool (kAt k S i % 3 == 0))) 82) := (hb.block g (by simpa using hgl) hnx).trans hs
  have hblk : ∀ b, b < W.heap.size → b ≠ g → (¬ ∃ off, ai = some ⟨b, off, none⟩) → W'.heap[b]? = W.heap[b]? := fun b hbl hbg hn => (hb.block b (by simpa using hbl) hn).trans (heap_set_other W g _ _ b hbg)
  have hcell : ∀ m, m ≠ i * 2 → W'.cell? ⟨g, m, none⟩ = W.cell? ⟨g, m, none⟩ := fun m hm => by
    rw [blkc hg', blkc hc, Array.getElem?_setIfInBounds_ne (by omega)]
  have hnot : ∀ j b, j < S.length → j ≠ i → LiesX xs j b → ¬ ∃ off, ai = some ⟨b, off, none⟩ := fun j b hj hji hl ⟨off, e⟩ => by
    rcases Nat.lt_or_ge j i with q | q
    · exact hd j i b q hi hl (hlies b off e)
    · exact hd i j b (by omega) hj (hlies b off e) hl
  refine ⟨⟨hb.os.trans h.but.os, hb.tape.trans h.but.tape, hb.output.trans h.but.output, Nat.le_trans hsz (by have := hb.size; simpa using this), fun b hbl hn => ?_⟩, ⟨_, hg'⟩, fun j hj => ?_, fun j hj => ?_, fun j hj aj n' cj e => ?_, fun j b hj hl => ?_⟩
  · rw [hblk b (by omega) (fun e => hn (.inl e)) (fun ⟨off, e⟩ => hn (.inr ⟨i, hi, hlies b off e⟩))]
    exact h.but.block b hbl hn
  · by_cases hji : j = i
    · subst hji
      have hl : j * 2 < cur.size := by
        have := h.fins j hj
        rw [blkc hc] at this
        exact (Array.getElem?_eq_some_iff.1 this).1
      rw [blkc hg', Array.getElem?_setIfInBounds_self_of_lt hl, if_pos (by omega)]
    · rw [hcell _ (by omega), h.fins j hj]
      have : (j < i + 1) ↔ j < i := by omega
      simp only [this]
  · rw [hcell _ (by omega)]; exact h.sl j hj
  · by_cases hji : j = i
    · subst hji
      rw [hx] at e
      simp only [Option.some.injEq, Value.slice.injEq] at e
      rw [if_pos (by omega), ← e.1]
      exact hA
    · have : (j < i + 1) ↔ j < i := by omega
      simp only [this]
      have h1 := h.arcs j hj aj n' cj e
      refine h1.keep (by have := hb.size; simpa using this) fun b off e' hbl => ?_
      have hl : LiesX xs j b := ⟨off, n', cj, by rw [e, e']⟩
      exact hblk b hbl (h.apart j b hj hl) (hnot j b hj hji hl)
  · by_cases hji : j = i
    · subst hji
      obtain ⟨off, n', c', e⟩ := hl
      rw [hx] at e
      simp only [Option.some.injEq, Value.slice.injEq] at e
      exact hT b off e.1
    · obtain ⟨cur2, hc2⟩ := h.typ j b hj hl
      exact ⟨cur2, (hblk b (Array.getElem?_eq_some_iff.1 hc2).1 (h.apart j b hj hl) (hnot j b hj hji hl)).trans hc2⟩
theorem OvAt.hold {w W : World} {g lo hi c : Nat} {xs : List Value} {S : List St} {k : Nat} (h : OvAt w W g xs S k S.length) (hs : StsAt w lo hi (.slice (some ⟨g, 0, none⟩) S.length c) S xs) : HoldS W (some ⟨g, 0, none⟩) (mkS k S) := by
  obtain ⟨cur, hc⟩ := h.rowt
  refine Or.inr ⟨g, 0, rfl, (Array.getElem?_eq_some_iff.1 hc).1, fun j hj => ?_⟩
  rw [mkS_len] at hj
  obtain ⟨_, aj, cj, q2, _, _⟩ := hs.sts j hj
  rw [mkS_at k S hj, Nat.zero_add]
  refine ⟨?_, aj, cj, ?_, ?_⟩
  · rw [h.fins j hj, if_pos hj]; rfl
  · rw [h.sl j hj, q2]
    show some (Value.slice aj (arcsAt S j).length cj) = some (Value.slice aj (mkA (kAt k S j + 1) (arcsAt S j)).length cj)
    rw [mkA_len]
  · have := h.arcs j hj aj _ cj q2
    rw [if_pos hj] at this
    exact this
set_option maxHeartbeats 4000000 in
theorem markS_any (a : Option Addr) (c k lo hi : Nat) (S : List St) (xs : List Value) (w : World) (hn : S.length ≤ 16384) (hA : ∀ i, (arcsAt S i).length ≤ 256) (hk : k ≤ 1000) (hs : StsAt w lo hi (.slice a S.length c) S xs) (hd : DisX xs S.length) :
    Calls Try.prog 56 #[.slice a S.length c, .int .i64 (k : Int)] w fun e w' => e = .returned (.int .i64 ((kAt k S S.length : Nat) : Int)) ∧ HoldS w' a (mkS k S) ∧ ButX (fun b => lo ≤ b ∧ b < hi) w w' := by
  by_cases h0 : S.length = 0
  · have hS : S = [] := List.length_eq_zero_iff.1 h0
    subst hS
    go_enter Try.func56, Try.ntmps56
    go_wp2_with fail
    go_loopw [1, 5] (fun kv iv wr => kv = .int .i64 (k : Int) ∧ iv = .int .i64 0 ∧ wr = w) (fun _ _ _ => 0)
    case atStart => exact ⟨rfl, rfl, rfl⟩
    case round =>
      obtain ⟨rfl, rfl, hwr⟩ := hrel
      subst hwr
      go_wp2_with fail
      go_ret
      exact ⟨rfl, Or.inl rfl, ButX.refl _ _⟩
  · obtain ⟨g, rfl, _, _⟩ := rowCells hs.row (show 0 < S.length by omega)
    have HS := hidd hs
    have HD := hidd hd
    have HM0 := hidd (OvAt.start k hs)
    have hglo := (own_blk hs.row (b := g) rfl).1
    clear hs hd
    go_enter Try.func56, Try.ntmps56
    go_wp2_with fail
    go_loopw [1, 5] (fun kv iv wr => ∃ i : Nat, i ≤ S.length ∧ kv = .int .i64 ((kAt k S i : Nat) : Int) ∧ iv = .int .i64 (i : Int) ∧ OvAt w wr g xs S k i) (fun _ iv _ => S.length - (intOf iv).toNat)
    case atStart => exact ⟨0, Nat.zero_le _, rfl, rfl, HM0.out⟩
    case round =>
      clear HM0
      obtain ⟨i, hiS, rfl, rfl, hm⟩ := hrel
      have HM := hidd hm
      clear hm
      by_cases hlt : i < S.length
      · have hltz : (i : Int) < (S.length : Int) := by omega
        obtain ⟨cur, hcur⟩ := HM.out.rowt
        have c0 := HM.out.fins i hlt
        have f0 : wr.frozen? ⟨g, i * 2, none⟩ = false := frozen_of_row wr g _ cur _ hcur
        obtain ⟨_, ai, ci, q2, _, _⟩ := HS.out.sts i hlt
        have hak : (S.getD i st0).2 = arcsAt S i := rfl
        rw [hak] at q2
        have hsl := HM.out.sl i hlt
        rw [q2] at hsl
        have hKl := kAt_le (k := k) hA i
        have HKn : Hid (kAt k S (i + 1) = kAt k S i + 1 + 3 * (arcsAt S i).length) := rfl
        have Hq2 := hidd q2
        have hAi := hA i
        have HNx := hidd (fun W' => HM.out.next (W' := W') hlt HD.out Hq2.out)
        have hne : ∀ b off, ai = some ⟨b, off, none⟩ → b ≠ g := fun b off e => HM.out.apart i b hlt ⟨off, _, ci, by rw [Hq2.out, e]⟩
        have HAr : Hid (HoldA (wr.setCell ⟨g, i * 2, none⟩ (.bool (kAt k S i % 3 == 0))) ai (arcsAt S i)) := by
          have h1 := HM.out.arcs i hlt ai _ ci Hq2.out
          rw [if_neg (by omega)] at h1
          exact h1.keep (by simp) fun b off e _ => heap_set_other wr g _ _ b (hne b off e)
        have HTy : Hid (∀ b off, ai = some ⟨b, off, none⟩ → ∃ cur, (wr.setCell ⟨g, i * 2, none⟩ (.bool (kAt k S i % 3 == 0))).heap[b]? = some (.cells cur 85)) := fun b off e => by
          obtain ⟨c', h'⟩ := HM.out.typ i b hlt ⟨off, _, ci, by rw [Hq2.out, e]⟩
          exact ⟨c', (heap_set_other wr g _ _ b (hne b off e)).trans h'⟩
        have hsl2 : (wr.setCell ⟨g, i * 2, none⟩ (.bool (kAt k S i % 3 == 0))).cell? ⟨g, i * 2 + 1, none⟩ = some (.slice ai (arcsAt S i).length ci) := by
          rw [blkc (blk_setk hcur _ _), Array.getElem?_setIfInBounds_ne (by omega), ← blkc hcur]; exact hsl
        obtain ⟨K, hK⟩ : ∃ K, kAt k S i = K := ⟨_, rfl⟩
        rw [hK] at HKn hKl HNx HAr HTy hsl2
        rw [hK]
        have hKb : K ≤ 20000000 := by omega
        have HMa := hidd (markA_any ai ci (K + 1) (arcsAt S i) _ (by omega) (by omega) HAr.out HTy.out)
        have hr3 := rem3 K
        clear hK hcur hsl hne q2
        generalize (arcsAt S i).length = nl at *
        rw [← hr3] at hsl2 HMa HNx
        rw [show ((K + 1 : Nat) : Int) = (K : Int) + 1 by omega] at HMa
        have HKn2 := hidd HKn.out
        clear hr3 HAr HTy HKn
        go_wp2_with fail
        refine HMa.out.mono ?_
        rintro e w3 ⟨rfl, h1, h2, h3⟩
        have HN := hidd (HNx.out w3 h1 h2 h3)
        clear h1 h2 h3 HMa HNx
        dsimp only
        go_wp2_with fail
        go_roundw
        case rel =>
          refine ⟨i + 1, by omega, ?_, by go_num, HN.out⟩
          rw [HKn2.out]
        case measure => simp [intOf]; omega
      · have hltz : ¬ (i : Int) < (S.length : Int) := by omega
        have hie : i = S.length := by omega
        rw [hie] at HM
        have HB : Hid (ButX (fun b => lo ≤ b ∧ b < hi) w wr) := by
          refine ⟨HM.out.but.os, HM.out.but.tape, HM.out.but.output, HM.out.but.size, fun b hb hn => HM.out.but.block b hb ?_⟩
          rintro (e | ⟨j, hj, hl⟩)
          · exact hn ⟨by omega, by have := HS.out.own g rfl; omega⟩
          · exact hn (hl.range HS.out hj)
        have HHo := hidd (HM.out.hold HS.out)
        rw [hie]
        generalize hK : kAt k S S.length = K at *
        have HK := hidd hK
        clear hie HM hK
        go_wp2_with fail
        go_ret
        exact ⟨by rw [HK.out]; rfl, HHo.out, HB.out⟩
set_option maxHeartbeats 4000000 in
theorem heldS_any (a : Option Addr) (c k : Nat) (S : List St) (w : World) (hn : S.length ≤ 16384) (hA : ∀ i, (arcsAt S i).length ≤ 256) (hk : k ≤ 1000) (hs : HoldS w a (mkS k S)) :
    Calls Try.prog 57 #[.slice a S.length c, .int .i64 (k : Int)] w fun e w' => e = .returned (.int .i64 ((kAt k S S.length : Nat) : Int)) ∧ ∃ m, w' = w.drewN m := by
  have HS := hidd hs
  clear hs
  go_enter Try.func57, Try.ntmps57
  go_wp2_with fail
  go_loopw [1, 5] (fun kv iv wr => ∃ i q : Nat, i ≤ S.length ∧ kv = .int .i64 ((kAt k S i : Nat) : Int) ∧ iv = .int .i64 (i : Int) ∧ wr = w.drewN q) (fun _ iv _ => S.length - (intOf iv).toNat)
  case atStart => exact ⟨0, 0, Nat.zero_le _, rfl, rfl, rfl⟩
  case round =>
    obtain ⟨i, q, hi, rfl, rfl, hwr⟩ := hrel
    by_cases hlt : i < S.length
    · have hltz : (i : Int) < (S.length : Int) := by omega
      obtain ⟨b, off, rfl, hb, hc⟩ := HS.out.resolve_left (fun e => by have := congrArg List.length e; rw [mkS_len, List.length_nil] at this; omega)
      obtain ⟨c0, ai, ci, c1, hAi⟩ := hc i (by rw [mkS_len]; exact hlt)
      rw [mkS_at k S hlt] at c0 c1 hAi
      unfold mkSt at c0 c1 hAi
      dsimp only at c0 c1 hAi
      rw [mkA_len] at c1
      have hKl := kAt_le (k := k) hA i
      have hAl := hA i
      have HKn : Hid (kAt k S (i + 1) = kAt k S i + 1 + 3 * (arcsAt S i).length) := rfl
      have hbel : Below w.heap.size w wr := by rw [hwr]; exact below_drewN (Below.refl _ _) q
      replace c0 := (hbel.cell (p := ⟨b, off + i * 2, none⟩) hb).trans c0
      replace c1 := (hbel.cell (p := ⟨b, off + i * 2 + 1, none⟩) hb).trans c1
      obtain ⟨K, hK⟩ : ∃ K, kAt k S i = K := ⟨_, rfl⟩
      rw [hK] at HKn hKl c0 hAi
      rw [hK]
      have hKb : K ≤ 20000000 := by omega
      have HHe := hidd (heldA_any ai ci (K + 1) (arcsAt S i) wr (by omega) (by omega) (hAi.below hbel))
      rw [← rem3 K] at c0
      rw [show ((K + 1 : Nat) : Int) = (K : Int) + 1 by omega] at HHe
      have hbb : (((K : Int) % 3 == 0) != ((K : Int) % 3 == 0)) = false := by simp
      have hKp : ¬ (((K + 1 + 3 * (arcsAt S i).length : Nat) : Int) < 0) := by omega
      have Hwr := hidd hwr
      clear hK hc hAi hbel hwr
      generalize (arcsAt S i).length = nl at *
      go_wp2_with fail
      refine HHe.out.mono ?_
      rintro e w3 ⟨rfl, m3, hw3⟩
      have HW3 : Hid (w3 = w.drewN (q + m3)) := by show _ = _; rw [hw3, Hwr.out]; simp [World.drewN, Nat.add_assoc]
      clear HHe hw3
      dsimp only
      go_wp2_with fail
      go_roundw
      case rel =>
        refine ⟨i + 1, q + m3, by omega, ?_, by go_num, HW3.out⟩
        rw [HKn.out]
      case measure => simp [intOf]; omega
    · have hltz : ¬ (i : Int) < (S.length : Int) := by omega
      have hie : i = S.length := by omega
      rw [hie]
      generalize hK : kAt k S S.length = K at *
      have HK := hidd hK
      have Hwr := hidd hwr
      clear hwr hie hK
      go_wp2_with fail
      go_ret
      exact ⟨by rw [HK.out]; rfl, q, Hwr.out⟩
end Go.Proofs.Ytbkedgpligcicaa

namespace Go.Proofs.Ytbkedgpligcicaa
open Go Go.RowKit
set_option linter.unusedVariables false
set_option maxRecDepth 100000

theorem readD_is {bs : List UInt8} {d : Int × List St} (h : readD bs = some d) : ∃ ts, IsDict d ts := by
  unfold readD at h
  split at h
  · rename_i hx
    cases h
    obtain ⟨ts, h1, _⟩ := hx.choose_spec
    exact ⟨ts, h1⟩
  · cases h
theorem readO_small (bs : List UInt8) : (readO bs).1.2.length ≤ 16384 ∧ ∀ i, (arcsAt (readO bs).1.2 i).length ≤ 256 := by
  have hnil : ([] : List St).length ≤ 16384 ∧ ∀ i, (arcsAt ([] : List St) i).length ≤ 256 := ⟨by simp, fun i => by simp [arcsAt, st0]⟩
  unfold readO
  split
  · exact hnil
  · cases hd : readD bs with
    | none => exact hnil
    | some d =>
      obtain ⟨ts, h⟩ := readD_is hd
      have hd' : IsDict (d.1, d.2) ts := h
      refine ⟨hd'.n2, fun i => ?_⟩
      by_cases hi : i < d.2.length
      · exact (hd'.small i hi).1
      · have : arcsAt d.2 i = [] := by
          unfold arcsAt
          rw [List.getD_eq_getElem?_getD, List.getElem?_eq_none (by omega)]; rfl
        show (arcsAt d.2 i).length ≤ 256
        rw [this]; simp
set_option maxHeartbeats 1000000 in
theorem markD_any (x : Int) (a : Option Addr) (c lo hi : Nat) (S : List St) (xs : List Value) (w : World) (hn : S.length ≤ 16384) (hA : ∀ i, (arcsAt S i).length ≤ 256) (hs : StsAt w lo hi (.slice a S.length c) S xs) (hd : DisX xs S.length) :
    Calls Try.prog 22 #[.agg #[.int .i64 x, .slice a S.length c], .int .i64 1] w fun e w' => e = .returned (.int .i64 ((kAt 1 S S.length : Nat) : Int)) ∧ HoldS w' a (mkS 1 S) ∧ ButX (fun b => lo ≤ b ∧ b < hi) w w' := by
  have HBa := hidd ((Below.refl w.heap.size w).alloc (Nat.le_refl _) (.cells #[.int .i64 x, .slice a S.length c] 27))
  have HM := hidd (markS_any a c 1 lo hi S xs _ hn hA (by omega) (hs.keep HBa.out.size fun b h1 h2 => HBa.out.block b (Nat.lt_of_lt_of_le h2 hs.le)) hd)
  clear hs hd
  go_enter Try.func22, Try.ntmps22
  go_wp2_with fail
  refine HM.out.mono ?_
  rintro e w2 ⟨rfl, h1, h2⟩
  have H1 := hidd h1
  have H2 : Hid (ButX (fun b => lo ≤ b ∧ b < hi) w w2) := (ButX.of_below (X := fun _ => False) HBa.out).trans h2 (fun _ _ q => q.elim) (fun _ _ q => q)
  clear h1 h2
  dsimp only
  go_wp2_with fail
  go_ret
  exact ⟨rfl, H1.out, H2.out⟩
set_option maxHeartbeats 1000000 in
theorem heldD_any (x : Int) (a : Option Addr) (c : Nat) (S : List St) (w : World) (hn : S.length ≤ 16384) (hA : ∀ i, (arcsAt S i).length ≤ 256) (hs : HoldS w a (mkS 1 S)) :
    Calls Try.prog 23 #[.agg #[.int .i64 x, .slice a S.length c], .int .i64 1] w fun e w' => e = .returned (.int .i64 ((kAt 1 S S.length : Nat) : Int)) ∧ Below w.heap.size w w' := by
  have HBa := hidd ((Below.refl w.heap.size w).alloc (Nat.le_refl _) (.cells #[.int .i64 x, .slice a S.length c] 27))
  have HM := hidd (heldS_any a c 1 S _ hn hA (by omega) (hs.below HBa.out))
  clear hs
  generalize kAt 1 S S.length = K at *
  have hK : ¬ ((K : Int) < 0) := by omega
  go_enter Try.func23, Try.ntmps23
  go_wp2_with fail
  refine HM.out.mono ?_
  rintro e w2 ⟨rfl, m2, rfl⟩
  dsimp only
  go_wp2_with fail
  go_ret
  exact ⟨rfl, below_drewN HBa.out m2⟩
theorem bytes_own {w : World} {base g n c : Nat} {bs : List UInt8} (h : w.ownsRow base 5 1 (.slice (some ⟨g, 0, none⟩) n c) n (Lib.byteCells bs)) (hl : bs.length = n) : BytesAt w g 0 bs := own_bytes h hl
end Go.Proofs.Ytbkedgpligcicaa

namespace Go.Proofs.Ytbkedgpligcicaa
open Go Go.RowKit
set_option linter.unusedVariables false

/-- What the law holds on to. -/
structure LC (wb W : World) (B4 lo hi : Nat) (D : Int) (a1 : Option Addr) (k1 : Nat) (F : List St) (xs : List Value) : Prop where
  base : Below wb.heap.size wb W
  box : W.heap[B4]? = some (.cells #[.int .i64 D, .slice a1 F.length k1] 27)
  sts : StsAt W lo hi (.slice a1 F.length k1) F xs
theorem LC.below {wb W W' : World} {B4 lo hi : Nat} {D : Int} {a1 : Option Addr} {k1 : Nat} {F : List St} {xs : List Value} (h : LC wb W B4 lo hi D a1 k1 F xs) (hb : Below W.heap.size W W') : LC wb W' B4 lo hi D a1 k1 F xs :=
  ⟨h.base.trans (hb.mono h.base.size), blko h.box hb, h.sts.keep hb.size fun b _ h2 => hb.block b (Nat.lt_of_lt_of_le h2 h.sts.le)⟩
theorem LC.grown {wb W W' : World} {B4 lo hi : Nat} {D : Int} {a1 : Option Addr} {k1 : Nat} {F : List St} {xs : List Value} {r : Nat} (h : LC wb W B4 lo hi D a1 k1 F xs) (hg : W.grownBy W' (some r)) (h1 : wb.heap.size ≤ r) (h2 : r ≠ B4) (h3 : r < lo) : LC wb W' B4 lo hi D a1 k1 F xs :=
  ⟨h.base.grown hg h.base.size (fun k e => by cases e; exact h1), (hg.block B4 (Array.getElem?_eq_some_iff.1 h.box).1 (fun e => by cases e; exact h2 rfl)).trans h.box, h.sts.keep hg.size fun b q1 q2 => hg.block b (Nat.lt_of_lt_of_le q2 h.sts.le) (fun e => by cases e; omega)⟩
theorem LC.hold {wb W : World} {B4 lo hi : Nat} {D : Int} {a1 : Option Addr} {k1 : Nat} {F : List St} {xs : List Value} (h : LC wb W B4 lo hi D a1 k1 F xs) : HoldS W a1 F := by
  obtain ⟨a', c', e', hH⟩ := h.sts.hold
  simp only [Value.slice.injEq, true_and] at e'
  rw [e'.1]; exact hH
set_option maxHeartbeats 16000000 in
set_option maxRecDepth 100000 in
theorem buildLaw_any (ao : Option Addr) (cap : Nat) (ts : List Tx) (w : World) (hn63 : ts.length ≤ 9223372036854775807) (hA63 : ∀ i, (ts.getD i []).length ≤ 9223372036854775807) (h : TmAt w ao ts) :
    Calls Try.prog 4 #[.slice ao ts.length cap] w fun e w' => e = .returned (.bool true) ∧ Below w.heap.size w w' := by
  have HSz := hidd (szStrs_any ao cap ts 1048576 w (by omega) (by omega) hn63 hA63 h)
  have HT : Hid (∀ w', ts.length ≤ 1048576 → Below w.heap.size w w' → Calls Try.prog 18 #[.slice ao ts.length cap] w' fun e w2 => e = .returned (.slice (some ⟨w'.heap.size, 0, none⟩) ts.length ts.length) ∧ RowTx w2 w'.heap.size ts ∧ Below w'.heap.size w' w2) := fun w' hn hb => toTx_any ao cap ts w' hn (h.below hb)
  clear h hA63
  by_cases hneg : szTx 1048576 ts < 0
  · generalize szTx 1048576 ts = R at *
    go_enter Try.func4, Try.ntmps4
    go_wp2_with fail
    refine HSz.out.mono ?_
    rintro e w1 ⟨rfl, rfl⟩
    go_wp2_with fail
    go_ret
    exact ⟨rfl, Below.refl _ _⟩
  have hlen := szTx_bound (by omega : (0 : Int) ≤ 1048576) hneg
  have hlen2 : ts.length ≤ 1048576 := by omega
  clear hlen hn63
  obtain ⟨hF1, hF2⟩ := bldO_small ts
  have HS : Hid (∀ g W, RowTx W g ts → Calls Try.prog 8 #[.slice (some ⟨g, 0, none⟩) ts.length ts.length] W fun e w' => ∃ a c, e = .returned (.tuple #[.agg #[.int .i64 (bldO ts).1.1, .slice a (bldO ts).1.2.length c], .int .i64 (bldO ts).2]) ∧ HoldS w' a (bldO ts).1.2 ∧ Below W.heap.size W w') := fun g W hb => specBuild_any _ _ ts W hlen2 (rowTx_hold hb)
  have HI : Hid (∀ g W, RowTx W g ts → Calls Try.prog 9 #[.slice (some ⟨g, 0, none⟩) ts.length ts.length] W fun e w' => ∃ a c lo hi xs, e = .returned (.tuple #[.agg #[.int .i64 (bldO ts).1.1, .slice a (bldO ts).1.2.length c], .int .i64 (bldO ts).2]) ∧ W.heap.size ≤ lo ∧ StsAt w' lo hi (.slice a (bldO ts).1.2.length c) (bldO ts).1.2 xs ∧ DisX xs (bldO ts).1.2.length ∧ Below W.heap.size W w') := fun g W hb => implBuild_any _ _ ts W hlen2 (Nat.le_refl _) (by omega) (rowTx_hold hb)
  obtain ⟨D, hD⟩ : ∃ D, (bldO ts).1.1 = D := ⟨_, rfl⟩
  obtain ⟨F, hF⟩ : ∃ F, (bldO ts).1.2 = F := ⟨_, rfl⟩
  obtain ⟨C, hC⟩ : ∃ C, (bldO ts).2 = C := ⟨_, rfl⟩
  rw [hD, hF, hC] at HS HI
  rw [hF] at hF1 hF2
  clear hD hF hC
  have hF3 : ∀ i, (arcsAt F i).length ≤ 1048576 := fun i => by have := hF2 i; omega
  have HF2 := hidd hF2
  have HF3 := hidd hF3
  clear hF2 hF3
  have hcn : (C != C) = false := by simp
  generalize szTx 1048576 ts = R at *
  go_enter Try.func4, Try.ntmps4
  go_wp2_with fail
  refine HSz.out.mono ?_
  rintro e w0 ⟨rfl, hw0⟩
  obtain rfl := hw0.symm
  clear hw0 HSz
  go_wp2_with fail
  refine (HT.out _ (by omega) (Below.refl _ _)).mono ?_
  rintro e w1 ⟨rfl, hown1, hb1⟩
  have HB1 := hidd hb1
  have HS1 := hidd (HS.out w.heap.size w1 hown1)
  clear hown1 hb1
  go_wp2_with fail
  refine HS1.out.mono ?_
  rintro e w2 ⟨a0, k0, rfl, hh2, hb2⟩
  have HB2 := hidd (HB1.out.trans (hb2.mono HB1.out.size))
  have HBx := hidd ((Below.refl w2.heap.size w2).alloc (Nat.le_refl _) (.cells #[.int .i64 D, .slice a0 F.length k0] 27))
  have HX2 := hidd (heap_alloc_new w2 (.cells #[.int .i64 D, .slice a0 F.length k0] 27))
  have HH2 := hidd (hh2.below HBx.out)
  clear hh2 hb2 HS1 HS HB1
  dsimp only
  go_upto_region 6 with fail
  obtain ⟨wb, hwb⟩ : ∃ wb, w2.alloc (.cells #[.int .i64 D, .slice a0 F.length k0] 27) = wb := ⟨_, rfl⟩
  rw [hwb] at HBx HX2 HH2
  try rw [hwb]
  clear hwb
  have HBb := hidd (HB2.out.trans (HBx.out.mono HB2.out.size))
  have hzb : w2.heap.size < wb.heap.size := (Array.getElem?_eq_some_iff.1 HX2.out).1
  clear HB2 HBx
  go_wp2_with fail
  refine (HT.out _ (by omega) HBb.out).mono ?_
  rintro e w3 ⟨rfl, hown3, hb3⟩
  have HX3 := hidd hown3
  have HB3 := hidd hb3
  have hz3 : wb.heap.size < w3.heap.size := hown3.lt
  have HI3 := hidd (HI.out wb.heap.size w3 hown3)
  clear hown3 hb3
  go_wp2_with fail
  refine HI3.out.mono ?_
  rintro e w4 ⟨a1, k1, lo, hi, xs, rfl, hlo, hs4, hd4, hb4⟩
  have HBx4 := hidd ((Below.refl w4.heap.size w4).alloc (Nat.le_refl _) (.cells #[.int .i64 D, .slice a1 F.length k1] 27))
  have HX4 := hidd (heap_alloc_new w4 (.cells #[.int .i64 D, .slice a1 F.length k1] 27))
  have HDi := hidd hd4
  have HS4 := hidd (hs4.keep HBx4.out.size fun b h1 h2 => HBx4.out.block b (Nat.lt_of_lt_of_le h2 hs4.le))
  have hhi := hs4.le
  have HB34 := hidd (HB3.out.trans (hb4.mono HB3.out.size))
  have HO4 := hidd ((HX3.out.below hb4).below HBx4.out)
  have hz34 := hb4.size
  clear hs4 hd4 hb4 HI3 HB3 HX3
  dsimp only
  go_upto_region 8 with fail
  obtain ⟨wc, hwc⟩ : ∃ wc, w4.alloc (.cells #[.int .i64 D, .slice a1 F.length k1] 27) = wc := ⟨_, rfl⟩
  rw [hwc] at HBx4 HX4 HS4 HO4
  try rw [hwc]
  clear hwc
  have HBc := hidd (HB34.out.trans (HBx4.out.mono HB34.out.size))
  have hzc : w4.heap.size < wc.heap.size := (Array.getElem?_eq_some_iff.1 HX4.out).1
  have hz4b : wb.heap.size < w4.heap.size := by omega
  clear HB34 HBx4
  have HL := hidd (LC.mk HBc.out HX4.out HS4.out)
  have hlo2 : wb.heap.size < lo := by omega
  clear HX4 HS4 HBc
  obtain ⟨B4, hB4⟩ : ∃ B4, w4.heap.size = B4 := ⟨_, rfl⟩
  rw [hB4] at HL hz4b hhi
  rw [hB4]
  clear hB4 hzc hz34 hlo hz3
  have x0 := blkc HL.out.box 0
  have x1 := blkc HL.out.box 1
  have y0 := blkc (blko HX2.out HL.out.base) 0
  have y1 := blkc (blko HX2.out HL.out.base) 1
  have HEq := hidd (eqDict_same D a1 a0 k1 k0 F wc (by omega) HF3.out HL.out.hold (HH2.out.below HL.out.base))
  go_wp2_with fail
  refine HEq.out.mono ?_
  rintro e w5 ⟨rfl, hb5⟩
  have HL5 := hidd (HL.out.below hb5)
  have HO5 := hidd (HO4.out.below hb5)
  clear hb5 HEq HL HO4 x0 x1 y0 y1
  dsimp only
  go_wp2_with fail
  refine (HT.out _ (by omega) (HBb.out.trans (HL5.out.base.mono HBb.out.size))).mono ?_
  rintro e w6 ⟨rfl, hown6, hb6⟩
  have HY6 := hidd hown6
  have HL6 := hidd (HL5.out.below hb6)
  have HO6 := hidd (HO5.out.below hb6)
  clear hown6 hb6 HL5 HO5
  dsimp only
  go_wp2_with fail
  refine (eqTx_any _ _ _ _ ts _ hlen2 (rowTx_hold HO6.out) (rowTx_hold HY6.out)).mono ?_
  rintro e w7 ⟨rfl, hb7⟩
  have HL7 := hidd (HL6.out.below hb7)
  have HO7 : Hid (RowN w7 wb.heap.size ts.length 9) := by
    obtain ⟨cur, q1, q2, _⟩ := HO6.out.below hb7
    exact ⟨cur, q1, q2⟩
  clear HY6 HL6 HO6 hb7
  dsimp only
  go_wp2_with fail
  refine (markTx_any _ ts.length _ _ hlen2 HO7.out).mono ?_
  rintro e w8 ⟨rfl, hg8⟩
  have HL8 := hidd (HL7.out.grown hg8 (Nat.le_refl _) (Nat.ne_of_lt hz4b) hlo2)
  clear hg8 HL7 HO7
  have hkz : ¬ (((1 + ts.length : Nat) : Int)) < 0 := by omega
  have x0 := blkc HL8.out.box 0
  have x1 := blkc HL8.out.box 1
  have y0 := blkc (blko HX2.out HL8.out.base) 0
  have y1 := blkc (blko HX2.out HL8.out.base) 1
  have HEq := hidd (eqDict_same D a1 a0 k1 k0 F w8 (by omega) HF3.out HL8.out.hold (HH2.out.below HL8.out.base))
  dsimp only
  go_wp2_with fail
  refine HEq.out.mono ?_
  rintro e w9 ⟨rfl, hb9⟩
  have HL9 := hidd (HL8.out.below hb9)
  clear hb9 HEq HL8 x0 x1 y0 y1
  have x0 := blkc HL9.out.box 0
  have x1 := blkc HL9.out.box 1
  have HMk := hidd (markD_any D a1 k1 lo hi F xs w9 hF1 HF2.out HL9.out.sts HDi.out)
  have HHeld := hidd (fun W (hW : HoldS W a1 (mkS 1 F)) => heldD_any D a1 k1 F W hF1 HF2.out hW)
  obtain ⟨K, hK⟩ : ∃ K, kAt 1 F F.length = K := ⟨_, rfl⟩
  rw [hK] at HMk HHeld
  clear hK
  have hKn : ¬ (K : Int) < 0 := by omega
  have hKe : ((K : Int) != (K : Int)) = false := by simp
  dsimp only
  go_wp2_with fail
  refine HMk.out.mono ?_
  rintro e wm ⟨rfl, hhm, hbm⟩
  have hw9 : wb.heap.size ≤ w9.heap.size := HL9.out.base.size
  have HBm : Hid (Below wb.heap.size wb wm) := HL9.out.base.trans (hbm.below hw9 (fun i hi' q => by omega))
  have HXm : Hid (wm.heap[B4]? = some (.cells #[.int .i64 D, .slice a1 F.length k1] 27)) := (hbm.block B4 (Array.getElem?_eq_some_iff.1 HL9.out.box).1 (fun q => by omega)).trans HL9.out.box
  have HHm := hidd hhm
  clear hhm hbm HMk HL9 x0 x1
  have x0 := blkc HXm.out 0
  have x1 := blkc HXm.out 1
  have HHe := hidd (HHeld.out wm HHm.out)
  dsimp only
  go_wp2_with fail
  refine HHe.out.mono ?_
  rintro e wn ⟨rfl, hbn⟩
  have HBn := hidd (HBm.out.trans (hbn.mono HBm.out.size))
  have HXn := hidd (blko HXm.out hbn)
  have HHn := hidd (HHm.out.below hbn)
  clear hbn HHe HBm HXm HHm x0 x1
  dsimp only
  go_wp2_with fail
  refine (HT.out _ (by omega) (HBb.out.trans (HBn.out.mono HBb.out.size))).mono ?_
  rintro e wo ⟨rfl, howno, hbo⟩
  have HBo := hidd (HBn.out.trans (hbo.mono HBn.out.size))
  have HXo := hidd (blko HXn.out hbo)
  have HHo := hidd (HHn.out.below hbo)
  have HIo := hidd (HI.out wn.heap.size wo howno)
  clear howno hbo HBn HXn HHn
  dsimp only
  go_wp2_with fail
  refine HIo.out.mono ?_
  rintro e wp ⟨a2, k2, lo2, hi2, xs2, rfl, _, hs2, _, hbp⟩
  have HBxp := hidd ((Below.refl wp.heap.size wp).alloc (Nat.le_refl _) (.cells #[.int .i64 D, .slice a2 F.length k2] 27))
  have HX5 := hidd (heap_alloc_new wp (.cells #[.int .i64 D, .slice a2 F.length k2] 27))
  have HHp : Hid (HoldS wp a2 F) := by
    obtain ⟨a', c', e', hH⟩ := hs2.hold
    simp only [Value.slice.injEq, true_and] at e'
    rw [e'.1]; exact hH
  have HBp := hidd (HBo.out.trans (hbp.mono HBo.out.size))
  have HXp := hidd (blko HXo.out hbp)
  have HHp1 := hidd (HHo.out.below hbp)
  clear hs2 hbp HIo HBo HXo HHo
  dsimp only
  go_upto_region 25 with fail
  obtain ⟨wq, hwq⟩ : ∃ wq, wp.alloc (.cells #[.int .i64 D, .slice a2 F.length k2] 27) = wq := ⟨_, rfl⟩
  rw [hwq] at HBxp HX5
  try rw [hwq]
  clear hwq
  have HBq := hidd (HBp.out.trans (HBxp.out.mono HBp.out.size))
  have HXq := hidd (blko HXp.out HBxp.out)
  have HHq := hidd (HHp.out.below HBxp.out)
  have HHq1 := hidd (HHp1.out.below HBxp.out)
  clear HBp HXp HHp HHp1 HBxp
  have z0 := blkc HX5.out 0
  have z1 := blkc HX5.out 1
  have y0 := blkc (blko HX2.out HBq.out) 0
  have y1 := blkc (blko HX2.out HBq.out) 1
  have HEq := hidd (eqDict_same D a2 a0 k2 k0 F wq (by omega) HF3.out HHq.out (HH2.out.below HBq.out))
  go_wp2_with fail
  refine HEq.out.mono ?_
  rintro e wr ⟨rfl, hbr⟩
  have HBr := hidd (HBq.out.trans (hbr.mono HBq.out.size))
  have HXr := hidd (blko HXq.out hbr)
  have HHr := hidd (HHq1.out.below hbr)
  clear hbr HEq HBq HXq HHq HHq1 z0 z1 y0 y1
  have x0 := blkc HXr.out 0
  have x1 := blkc HXr.out 1
  have HHe := hidd (HHeld.out wr HHr.out)
  dsimp only
  go_wp2_with fail
  refine HHe.out.mono ?_
  rintro e ws ⟨rfl, hbs⟩
  have HBs : Hid (Below w.heap.size w ws) := HBb.out.trans ((HBr.out.trans (hbs.mono HBr.out.size)).mono HBb.out.size)
  clear hbs HHe
  dsimp only
  go_wp2_with fail
  go_ret
  exact ⟨rfl, HBs.out⟩
end Go.Proofs.Ytbkedgpligcicaa
