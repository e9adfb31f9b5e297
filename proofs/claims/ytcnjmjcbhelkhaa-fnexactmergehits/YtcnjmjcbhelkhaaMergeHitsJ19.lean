import Derived.Test.YtcnjmjcbhelkhaaMergeHitsJ18
import Derived.Test.YtcnjmjcbhelkhaaProg
import Derived.Test.YtcnjmjcbhelkhaaMergeHitsJ00
import Derived.WalkKit
import Derived.WalkLawsBesides
import Derived.BigQuiet
import Derived.Deep.QuietTactic
namespace Go.Proofs.Ytcnjmjcbhelkhaa
open Go Go.RowKit
set_option linter.unusedVariables false
set_option maxRecDepth 100000
set_option linter.unusedSimpArgs false

/-! The law's marks over its copies: rows of hits, rows of rows, sort keys. -/
/-- The number at which hit j's marks begin. -/
def kF (ls : List Nat) (k : Nat) : Nat → Nat
  | 0 => k
  | j + 1 => kF ls k j + 2 + ls.getD j 0
theorem kF_mono (ls : List Nat) (k : Nat) : ∀ {i j : Nat}, i ≤ j → kF ls k i ≤ kF ls k j := by
  intro i j h
  induction j with
  | zero => have : i = 0 := by omega
            subst this; exact Nat.le_refl _
  | succ j ih =>
    by_cases e : i = j + 1
    · subst e; exact Nat.le_refl _
    · have := ih (by omega); simp only [kF]; omega
/-- A row of hits, by its form: how many sort values each has. -/
def ShF (w : World) (lo hi g : Nat) (ls : List Nat) : Prop := ∃ cs, w.heap[g]? = some (Obj.cells cs 47) ∧ ls.length * 3 ≤ cs.size ∧ ∀ j, j < ls.length → ∃ gn cn, cs[j * 3 + 2]? = some (.slice (some ⟨gn, 0, none⟩) (ls.getD j 0) cn) ∧ lo ≤ gn ∧ gn < hi ∧ RowN w gn (ls.getD j 0) 3
theorem ShF.fw {lo hi g : Nat} {w w' : World} {ls : List Nat} (h : ShF w lo hi g ls) (hf : Fw lo hi w w') : ShF w' lo hi g ls := by
  obtain ⟨cs, h1, h2, h3⟩ := h
  obtain ⟨c1, k1, k2, k3, _⟩ := hf.shp g cs _ h1
  refine ⟨c1, k1, by omega, fun j hj => ?_⟩
  obtain ⟨gn, cn, q1, q2, q3, q4⟩ := h3 j hj
  exact ⟨gn, cn, (k3 rfl j).trans q1, q2, q3, q4.fw hf⟩
theorem ShF.at {lo hi g : Nat} {w : World} {ls : List Nat} (h : ShF w lo hi g ls) {j : Nat} (hj : j < ls.length) : ∃ cs u0 u1 gn cn, w.heap[g]? = some (Obj.cells cs 47) ∧ w.cell? ⟨g, j * 3, none⟩ = some u0 ∧ w.cell? ⟨g, j * 3 + 1, none⟩ = some u1 ∧ w.cell? ⟨g, j * 3 + 2, none⟩ = some (.slice (some ⟨gn, 0, none⟩) (ls.getD j 0) cn) ∧ lo ≤ gn ∧ gn < hi ∧ RowN w gn (ls.getD j 0) 3 := by
  obtain ⟨cs, h1, h2, h3⟩ := h
  obtain ⟨gn, cn, q1, q2, q3, q4⟩ := h3 j hj
  exact ⟨cs, cs[j * 3]'(by omega), cs[j * 3 + 1]'(by omega), gn, cn, h1, (blkc h1 (j * 3)).trans (Array.getElem?_eq_getElem (by omega)), (blkc h1 (j * 3 + 1)).trans (Array.getElem?_eq_getElem (by omega)), (blkc h1 (j * 3 + 2)).trans q1, q2, q3, q4⟩
set_option maxHeartbeats 4000000 in
theorem markFoundSC (lo hi g c k : Nat) (ls : List Nat) (w : World) (hg1 : lo ≤ g) (hg2 : g < hi) (hn : ls.length ≤ 1048576) (hl : ∀ i, ls.getD i 0 ≤ 1048576) (hk1 : 1 ≤ k) (hk : kF ls k ls.length ≤ 1099511627776) (h : ShF w lo hi g ls) :
    Calls Try.prog 15 #[.slice (some ⟨g, 0, none⟩) ls.length c, .int .i64 (k : Int)] w fun e w' => e = .returned (.int .i64 ((kF ls k ls.length : Nat) : Int)) ∧ Fw lo hi w w' := by
  have HS := hidd h
  have HL := hidd hl
  have HKm : Hid (∀ i, i ≤ ls.length → 1 ≤ kF ls k i ∧ kF ls k i ≤ 1099511627776) := fun i hi => ⟨Nat.le_trans hk1 (kF_mono ls k (Nat.zero_le i)), Nat.le_trans (kF_mono ls k hi) hk⟩
  clear h hl hk
  go_enter Try.func15, Try.ntmps15
  go_wp2
  go_loopw [1, 5] (fun kv iv wr => ∃ i K : Nat, i ≤ ls.length ∧ iv = .int .i64 (i : Int) ∧ kv = .int .i64 (K : Int) ∧ K = kF ls k i ∧ Fw lo hi w wr) (fun _ iv _ => ls.length - (intOf iv).toNat)
  case atStart => exact ⟨0, k, Nat.zero_le _, rfl, rfl, rfl, Fw.refl _ _ _⟩
  case round =>
    obtain ⟨i, K, hi', rfl, rfl, hK, hfz⟩ := hrel
    have HF := hidd hfz
    have HK := hidd hK
    have hkb := HKm.out i hi'
    rw [← hK] at hkb
    clear hfz hK
    by_cases hlt : i < ls.length
    · have hltz : (i : Int) < (ls.length : Int) := by omega
      have hle := HL.out i
      have HM := hidd (fun W => markText_any (K : Int) W (by omega) (by omega))
      generalize mkText (K : Int) = T at HM
      obtain ⟨m, hm⟩ : ∃ m, ls.getD i 0 = m := ⟨_, rfl⟩
      have Hm := hidd hm
      rw [hm] at hle
      clear hm
      obtain ⟨cs0, u00, u01, gn0, cn0, _, z0, _, _, _, _, _⟩ := (HS.out.fw HF.out).at hlt
      go_wp2_with fail
      refine (HM.out _).mono ?_
      rintro e w2 ⟨rfl, hb2⟩
      have HF2 := hidd (HF.out.trans (Fw.of hb2))
      clear hb2 HM z0
      obtain ⟨cs, u0, u1, gn, cn, h1, q0, q1, q2, hgn1, hgn2, hrn⟩ := (HS.out.fw HF2.out).at hlt
      have f0 := blkf h1 (i * 3)
      have Hz := hidd (Fw.set (lo := lo) (hi := hi) (i := i * 3) (.string T) h1 hg1 hg2 (by decide) (fun _ => by omega))
      have h2 := blk_setk h1 (i * 3) (.string T)
      have r1 : (w2.setCell ⟨g, i * 3, none⟩ (.string T)).cell? ⟨g, i * 3 + 1, none⟩ = some u1 := by
        rw [blkc h2 (i * 3 + 1), Array.getElem?_setIfInBounds_ne (by omega), ← blkc h1 (i * 3 + 1)]
        exact q1
      have f1 := blkf h2 (i * 3 + 1)
      have H2 := hidd h2
      clear h1 h2 hrn q1 q2 hgn1 hgn2
      dsimp only
      go_upto_region 6 with fail
      obtain ⟨ws, hws⟩ : ∃ ws, w2.setCell ⟨g, i * 3, none⟩ (.string T) = ws := ⟨_, rfl⟩
      rw [hws] at Hz r1 f1 H2
      try rw [hws]
      clear hws q0 f0
      have Hz2 := hidd (Fw.set (lo := lo) (hi := hi) (i := i * 3 + 1) (.int .i64 ((K : Int) + 1)) H2.out hg1 hg2 (by decide) (fun _ => by omega))
      go_upto_region 8 with fail
      obtain ⟨wt, hwt⟩ : ∃ wt, ws.setCell ⟨g, i * 3 + 1, none⟩ (.int .i64 ((K : Int) + 1)) = wt := ⟨_, rfl⟩
      rw [hwt] at Hz2
      try rw [hwt]
      clear hwt r1 f1 H2
      have HF3 := hidd ((HF2.out.trans Hz.out).trans Hz2.out)
      clear HF2 Hz Hz2
      obtain ⟨cs3, u30, u31, gn3, cn3, _, _, _, r2, hg3, hg4, hrn3⟩ := (HS.out.fw HF3.out).at hlt
      rw [Hm.out] at r2 hrn3
      have HM2 := hidd (markNz_any lo hi gn3 m cn3 (K + 2) wt hg3 hg4 hle (by omega) hrn3)
      rw [show ((K + 2 : Nat) : Int) = (K : Int) + 1 + 1 from by omega] at HM2
      clear hrn3 hg3 hg4
      go_wp2_with fail
      refine HM2.out.mono ?_
      rintro e w5 ⟨rfl, hf5⟩
      have HF5 := hidd (HF3.out.trans hf5)
      have HKn : Hid (K + 2 + m = kF ls k (i + 1)) := by show _ = _; simp only [kF]; rw [← HK.out, Hm.out]
      clear hf5 HM2 r2
      dsimp only
      go_wp2_with fail
      go_roundw
      case rel => exact ⟨i + 1, K + 2 + m, by omega, by go_num, rfl, HKn.out, HF5.out⟩
      case measure => simp [intOf]; omega
    · have hltz : ¬ (i : Int) < (ls.length : Int) := by omega
      obtain rfl : i = ls.length := by omega
      go_wp2_with fail
      go_ret
      exact ⟨by rw [HK.out]; rfl, HF.out⟩
/-- The number at which row j's marks begin. -/
def kW (Ls : List (List Nat)) (k : Nat) : Nat → Nat
  | 0 => k
  | j + 1 => kF (Ls.getD j []) (kW Ls k j) (Ls.getD j []).length
theorem kW_mono (Ls : List (List Nat)) (k : Nat) : ∀ {i j : Nat}, i ≤ j → kW Ls k i ≤ kW Ls k j := by
  intro i j h
  induction j with
  | zero => have : i = 0 := by omega
            subst this; exact Nat.le_refl _
  | succ j ih =>
    by_cases e : i = j + 1
    · subst e; exact Nat.le_refl _
    · have h1 := ih (by omega)
      have h2 := kF_mono (Ls.getD j []) (kW Ls k j) (Nat.zero_le (Ls.getD j []).length)
      simp only [kW]
      simp only [kF] at h2
      omega
def ShW (w : World) (lo hi g : Nat) (Ls : List (List Nat)) : Prop := ∃ cs, w.heap[g]? = some (Obj.cells cs 26) ∧ Ls.length ≤ cs.size ∧ ∀ j, j < Ls.length → ∃ gr cp, cs[j]? = some (.slice (some ⟨gr, 0, none⟩) (Ls.getD j []).length cp) ∧ lo ≤ gr ∧ gr < hi ∧ ShF w lo hi gr (Ls.getD j [])
theorem ShW.fw {lo hi g : Nat} {w w' : World} {Ls : List (List Nat)} (h : ShW w lo hi g Ls) (hf : Fw lo hi w w') : ShW w' lo hi g Ls := by
  obtain ⟨cs, h1, h2, h3⟩ := h
  obtain ⟨c1, k1, k2, _, k4⟩ := hf.shp g cs _ h1
  obtain rfl := k4 rfl
  refine ⟨c1, k1, h2, fun j hj => ?_⟩
  obtain ⟨gr, cp, q1, q2, q3, q4⟩ := h3 j hj
  exact ⟨gr, cp, q1, q2, q3, q4.fw hf⟩
theorem ShW.at {lo hi g : Nat} {w : World} {Ls : List (List Nat)} (h : ShW w lo hi g Ls) {j : Nat} (hj : j < Ls.length) : ∃ gr cp, w.cell? ⟨g, j, none⟩ = some (.slice (some ⟨gr, 0, none⟩) (Ls.getD j []).length cp) ∧ lo ≤ gr ∧ gr < hi ∧ ShF w lo hi gr (Ls.getD j []) := by
  obtain ⟨cs, h1, h2, h3⟩ := h
  obtain ⟨gr, cp, q1, q2, q3, q4⟩ := h3 j hj
  exact ⟨gr, cp, (blkc h1 j).trans q1, q2, q3, q4⟩
set_option maxHeartbeats 4000000 in
theorem markFoundSSC (lo hi g c k : Nat) (Ls : List (List Nat)) (w : World) (hn : Ls.length ≤ 1048576) (hl : ∀ i, (Ls.getD i []).length ≤ 1048576 ∧ ∀ j, (Ls.getD i []).getD j 0 ≤ 1048576) (hk1 : 1 ≤ k) (hk : kW Ls k Ls.length ≤ 1099511627776) (h : ShW w lo hi g Ls) :
    Calls Try.prog 13 #[.slice (some ⟨g, 0, none⟩) Ls.length c, .int .i64 (k : Int)] w fun e w' => e = .returned (.int .i64 ((kW Ls k Ls.length : Nat) : Int)) ∧ Fw lo hi w w' := by
  have HS := hidd h
  have HL := hidd hl
  have HKm : Hid (∀ i, i ≤ Ls.length → 1 ≤ kW Ls k i ∧ kW Ls k i ≤ 1099511627776) := fun i hi => ⟨Nat.le_trans hk1 (kW_mono Ls k (Nat.zero_le i)), Nat.le_trans (kW_mono Ls k hi) hk⟩
  clear h hl hk
  go_enter Try.func13, Try.ntmps13
  go_wp2
  go_loopw [1, 5] (fun kv iv wr => ∃ i K : Nat, i ≤ Ls.length ∧ iv = .int .i64 (i : Int) ∧ kv = .int .i64 (K : Int) ∧ K = kW Ls k i ∧ Fw lo hi w wr) (fun _ iv _ => Ls.length - (intOf iv).toNat)
  case atStart => exact ⟨0, k, Nat.zero_le _, rfl, rfl, rfl, Fw.refl _ _ _⟩
  case round =>
    obtain ⟨i, K, hi', rfl, rfl, hK, hfz⟩ := hrel
    have HF := hidd hfz
    have HK := hidd hK
    have hkb := HKm.out i hi'
    rw [← hK] at hkb
    clear hfz hK
    by_cases hlt : i < Ls.length
    · have hltz : (i : Int) < (Ls.length : Int) := by omega
      have hle := HL.out i
      have hkn := (HKm.out (i + 1) hlt).2
      simp only [kW] at hkn
      rw [← HK.out] at hkn
      obtain ⟨gr, cp, q1, hg1, hg2, hsh⟩ := (HS.out.fw HF.out).at hlt
      have HM := hidd (markFoundSC lo hi gr cp K (Ls.getD i []) wr hg1 hg2 hle.1 hle.2 hkb.1 hkn hsh)
      have HKn : Hid (kF (Ls.getD i []) K (Ls.getD i []).length = kW Ls k (i + 1)) := by show _ = _; simp only [kW]; rw [← HK.out]
      rw [HKn.out] at HM
      generalize (Ls.getD i []).length = m at *
      clear hsh hle hkn hg1 hg2
      go_wp2_with fail
      refine HM.out.mono ?_
      rintro e w2 ⟨rfl, hf2⟩
      have HF2 := hidd (HF.out.trans hf2)
      clear hf2 HM q1
      dsimp only
      go_wp2_with fail
      go_roundw
      case rel => exact ⟨i + 1, _, by omega, by go_num, rfl, rfl, HF2.out⟩
      case measure => simp [intOf]; omega
    · have hltz : ¬ (i : Int) < (Ls.length : Int) := by omega
      obtain rfl : i = Ls.length := by omega
      go_wp2_with fail
      go_ret
      exact ⟨by rw [HK.out]; rfl, HF.out⟩
set_option maxHeartbeats 4000000 in
theorem markSortKeySC (lo hi g n c k : Nat) (w : World) (hg1 : lo ≤ g) (hg2 : g < hi) (hn : n ≤ 1048576) (hk1 : 1 ≤ k) (hk : k ≤ 1099511627776) (h : RowN w g (n * 2) 50) :
    Calls Try.prog 14 #[.slice (some ⟨g, 0, none⟩) n c, .int .i64 (k : Int)] w fun e w' => e = .returned (.int .i64 ((k + n * 2 : Nat) : Int)) ∧ Fw lo hi w w' := by
  have HR := hidd h
  clear h
  go_enter Try.func14, Try.ntmps14
  go_wp2
  go_loopw [1, 5] (fun kv iv wr => ∃ i K : Nat, i ≤ n ∧ iv = .int .i64 (i : Int) ∧ kv = .int .i64 (K : Int) ∧ K = k + i * 2 ∧ Fw lo hi w wr) (fun _ iv _ => n - (intOf iv).toNat)
  case atStart => exact ⟨0, k, Nat.zero_le _, rfl, rfl, by omega, Fw.refl _ _ _⟩
  case round =>
    obtain ⟨i, K, hi', rfl, rfl, hK, hfz⟩ := hrel
    have HF := hidd hfz
    have HK := hidd hK
    have hkb : 1 ≤ K ∧ K ≤ 1099515822080 := by omega
    clear hfz hK
    by_cases hlt : i < n
    · have hltz : (i : Int) < (n : Int) := by omega
      have HM := hidd (fun W => markText_any (K : Int) W (by omega) (by omega))
      generalize mkText (K : Int) = T at HM
      go_wp2_with fail
      refine (HM.out _).mono ?_
      rintro e w2 ⟨rfl, hb2⟩
      have HF2 := hidd (HF.out.trans (Fw.of hb2))
      clear hb2 HM
      have hr2 := HR.out.fw HF2.out
      obtain ⟨⟨u0, q0⟩, f0⟩ := hr2.cell (j := i * 2) (by omega)
      obtain ⟨cur, hc, hcs⟩ := hr2
      have Hz := hidd (Fw.set (lo := lo) (hi := hi) (i := i * 2) (.string T) hc hg1 hg2 (by decide) (fun e => absurd e (by decide)))
      clear hc
      dsimp only
      go_upto_region 6 with fail
      obtain ⟨ws, hws⟩ : ∃ ws, w2.setCell ⟨g, i * 2, none⟩ (.string T) = ws := ⟨_, rfl⟩
      rw [hws] at Hz
      try rw [hws]
      clear hws q0 f0
      have HF3 := hidd (HF2.out.trans Hz.out)
      clear HF2 Hz
      have hr3 := HR.out.fw HF3.out
      obtain ⟨⟨u1, q1⟩, f1⟩ := hr3.cell (j := i * 2 + 1) (by omega)
      obtain ⟨cur3, hc3, hcs3⟩ := hr3
      have Hz3 : Hid (∀ u, Fw lo hi ws (ws.setCell ⟨g, i * 2 + 1, none⟩ u)) := fun u => Fw.set (i := i * 2 + 1) u hc3 hg1 hg2 (by decide) (fun e => absurd e (by decide))
      clear hc3
      go_wp2_with fail
      go_roundw
      case rel => exact ⟨i + 1, K + 2, by omega, by go_num, by go_num, by have := HK.out; omega, HF3.out.trans (Hz3.out _)⟩
      case measure => simp [intOf]; omega
    · have hltz : ¬ (i : Int) < (n : Int) := by omega
      obtain rfl : i = n := by omega
      go_wp2_with fail
      go_ret
      exact ⟨by rw [HK.out]; rfl, HF.out⟩
end Go.Proofs.Ytcnjmjcbhelkhaa

namespace Go.Proofs.Ytcnjmjcbhelkhaa
open Go Go.RowKit

end Go.Proofs.Ytcnjmjcbhelkhaa

namespace Go.Proofs.Ytcnjmjcbhelkhaa
open Go Go.RowKit
set_option linter.unusedVariables false

def marks (c : Int) (n : Nat) : List Value := (List.range n).map fun (i : Nat) => Value.int .i64 (c + (i : Int))
theorem marks_length (c : Int) (n : Nat) : (marks c n).length = n := by simp [marks]
theorem marks_at (c : Int) (n j : Nat) (h : j < n) : (marks c n)[j]? = some (Value.int .i64 (c + (j : Int))) := by simp [marks, h]
theorem marks_set (c : Int) (k n : Nat) (xs : List Value) (hl : xs.length = n) (hk : k < n) : (marks c k ++ xs.drop k).set k (.int .i64 (c + (k : Int))) = marks c (k + 1) ++ xs.drop (k + 1) := by
  have e : (marks c k).length = k := marks_length c k
  rw [List.set_append_right _ _ (by omega), e, Nat.sub_self]
  have hd : xs.drop k = xs[k] :: xs.drop (k + 1) := by rw [List.drop_eq_getElem_cons (by omega)]
  rw [hd, List.set_cons_zero]
  simp [marks, List.range_succ]
set_option maxHeartbeats 400000 in
theorem markInts_some (base g n cap : Nat) (xs : List Value) (c : Int) (w : World) (hn : n ≤ 1048576) (h0 : 0 ≤ c) (h1 : c ≤ 1099511627776) (hown : w.ownsRow base 3 1 (.slice (some ⟨g, 0, none⟩) n cap) n xs) :
    Calls Try.prog 28 #[.slice (some ⟨g, 0, none⟩) n cap, .int .i64 c] w fun e w' => e = .returned (.int .i64 (c + (n : Int))) ∧
      w'.ownsRow base 3 1 (.slice (some ⟨g, 0, none⟩) n cap) n (marks c n) ∧ w.grownBy w' (some g) := by
  have hl : xs.length = n := by have := hown.1; omega
  have HO := hidd hown
  clear hown
  go_enter Try.func28, Try.ntmps28
  go_wp2
  go_loopw [1, 5] (fun cv i wr => ∃ k : Nat, k ≤ n ∧ i = .int .i64 k ∧ cv = .int .i64 (c + (k : Int)) ∧ wr.ownsRow base 3 1 (.slice (some ⟨g, 0, none⟩) n cap) n (marks c k ++ xs.drop k) ∧ w.grownBy wr (some g)) (fun _ i _ => n - (intOf i).toNat)
  case atStart => exact ⟨0, Nat.zero_le _, rfl, by simp, by simpa [marks] using HO.out, grown_refl _ _⟩
  case round =>
    obtain ⟨k, hk, rfl, rfl, hown, hgr⟩ := hrel
    by_cases hlt : k < n
    · have f1 := hown.frozenAt k
      have hex : ∃ u, wr.cell? ⟨g, k, none⟩ = some u := by
        rw [hown.cellAt k (by omega)]
        have hlen : k < (marks c k ++ xs.drop k).length := by rw [List.length_append, marks_length, List.length_drop]; omega
        exact ⟨_, List.getElem?_eq_getElem hlen⟩
      obtain ⟨u, q1⟩ := hex
      have st := hidd (hown.stored k (.int .i64 (c + (k : Int))))
      clear hown
      go_wp2
      go_roundw
      case rel =>
        refine ⟨k + 1, by omega, by go_num, by go_num, ?_, grown_trans hgr st.out.2⟩
        have h := st.out.1
        rw [marks_set c k n xs hl hlt] at h
        exact h
      case measure => simp [intOf]; omega
    · have HK : Hid (k = n) := by show k = n; omega
      go_wp2
      go_ret
      obtain rfl := HK.out
      refine ⟨rfl, ?_, hgr⟩
      rw [List.drop_of_length_le (by omega), List.append_nil] at hown
      exact hown
set_option maxHeartbeats 400000 in
theorem heldInts_some (base g n cap : Nat) (c : Int) (w : World) (hn : n ≤ 1048576) (h0 : 0 ≤ c) (h1 : c ≤ 1099511627776) (hown : w.ownsRow base 3 1 (.slice (some ⟨g, 0, none⟩) n cap) n (marks c n)) :
    Calls Try.prog 29 #[.slice (some ⟨g, 0, none⟩) n cap, .int .i64 c] w fun e w' => e = .returned (.int .i64 (c + (n : Int))) ∧ w' = w := by
  have hc : Hid (∀ j, j < n → w.cell? ⟨g, j, none⟩ = some (.int .i64 (c + (j : Int)))) := fun j hj => by rw [hown.cellAt j (by omega)]; exact marks_at c n j hj
  clear hown
  go_enter Try.func29, Try.ntmps29
  go_wp2
  go_loop [1, 5] (fun cv i => ∃ k : Nat, k ≤ n ∧ i = .int .i64 k ∧ cv = .int .i64 (c + (k : Int))) (fun _ i => n - (intOf i).toNat)
  case atStart => exact ⟨0, Nat.zero_le _, rfl, by simp⟩
  case round =>
    obtain ⟨k, hk, rfl, rfl⟩ := hrel
    by_cases hlt : k < n
    · have q1 := hc.out k hlt
      go_wp2
      go_round
      case rel => exact ⟨k + 1, by omega, by go_num, by go_num⟩
      case measure => simp [intOf]; omega
    · have HK : Hid (k = n) := by show k = n; omega
      go_wp2
      go_ret
      rw [HK.out]
      exact ⟨rfl, rfl⟩
end Go.Proofs.Ytcnjmjcbhelkhaa

namespace Go.Proofs.Ytcnjmjcbhelkhaa
open Go Go.RowKit
set_option linter.unusedVariables false

set_option maxHeartbeats 400000 in
theorem markInts_zero (a1 : Option Addr) (c1 : Nat) (c : Int) (w : World) :
    Calls Try.prog 28 #[.slice a1 0 c1, .int .i64 c] w fun e w' => e = .returned (.int .i64 c) ∧ w' = w := by
  go_enter Try.func28, Try.ntmps28
  go_wp2
  refine wp_loop_rounds 1 ?_
  rw [rounds_succ]
  go_wp2
  go_ret
  exact ⟨rfl, rfl⟩
set_option maxHeartbeats 400000 in
theorem heldInts_zero (a1 : Option Addr) (c1 : Nat) (c : Int) (w : World) :
    Calls Try.prog 29 #[.slice a1 0 c1, .int .i64 c] w fun e w' => e = .returned (.int .i64 c) ∧ w' = w := by
  go_enter Try.func29, Try.ntmps29
  go_wp2
  refine wp_loop_rounds 1 ?_
  rw [rounds_succ]
  go_wp2
  go_ret
  exact ⟨rfl, rfl⟩
theorem markInts_own (base n : Nat) (v : Value) (xs : List Value) (c : Int) (w : World) (hn : n ≤ 1048576) (h0 : 0 ≤ c) (h1 : c ≤ 1099511627776) (h : w.ownsRow base 3 1 v n xs) :
    Calls Try.prog 28 #[v, .int .i64 c] w fun e w' => e = .returned (.int .i64 (c + (n : Int))) ∧ w'.ownsRow base 3 1 v n (marks c n) ∧ w.grownBy w' v.ownBlock := by
  rcases own_cases h with ⟨rfl, rfl⟩ | ⟨g1, c1, rfl, _, _⟩
  · refine (markInts_zero _ _ c w).mono fun e w' h' => ?_
    obtain ⟨rfl, rfl⟩ := h'
    exact ⟨by simp, World.ownsRow_nil _ _ _ _, grown_refl _ _⟩
  · exact markInts_some base g1 n c1 xs c w hn h0 h1 h
theorem heldInts_own (base n : Nat) (v : Value) (c : Int) (w : World) (hn : n ≤ 1048576) (h0 : 0 ≤ c) (h1 : c ≤ 1099511627776) (h : w.ownsRow base 3 1 v n (marks c n)) :
    Calls Try.prog 29 #[v, .int .i64 c] w fun e w' => e = .returned (.int .i64 (c + (n : Int))) ∧ w' = w := by
  rcases own_cases h with ⟨rfl, rfl⟩ | ⟨g1, c1, rfl, _, _⟩
  · refine (heldInts_zero _ _ c w).mono fun e w' h' => ?_
    obtain ⟨rfl, rfl⟩ := h'
    exact ⟨by simp, rfl⟩
  · exact heldInts_some base g1 n c1 c w hn h0 h1 h
end Go.Proofs.Ytcnjmjcbhelkhaa
