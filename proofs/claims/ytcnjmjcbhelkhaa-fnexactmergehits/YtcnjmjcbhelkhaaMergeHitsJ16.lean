import Derived.Test.YtcnjmjcbhelkhaaMergeHitsJ15
namespace Go.Proofs.Ytcnjmjcbhelkhaa
open Go Go.RowKit
set_option linter.unusedVariables false
set_option maxRecDepth 100000
set_option linter.unusedSimpArgs false

/-! How the law weighs its arguments. -/
def szN (left : Int) (n : Nat) : Int := if left - (n : Int) < 0 then -1 else left - (n : Int)
theorem szN_le (left : Int) (n : Nat) (h0 : 0 ≤ left) : -1 ≤ szN left n ∧ szN left n ≤ left := by
  unfold szN; split <;> omega
theorem szN_ok {left : Int} {n : Nat} (h : 0 ≤ szN left n) : szN left n = left - (n : Int) ∧ (n : Int) ≤ left := by
  unfold szN at h ⊢
  split at h
  · omega
  · rename_i hn; rw [if_neg hn]; omega
def szG {X : Type} (g : Int → X → Int) : Int → List X → Int
  | left, [] => left
  | left, x :: t => if g left x < 0 then -1 else szG g (g left x) t
theorem szG_step {X : Type} (g : Int → X → Int) (l : List X) (d : X) (k : Nat) (left : Int) (h : k < l.length) : szG g left (l.drop k) = if g left (l.getD k d) < 0 then -1 else szG g (g left (l.getD k d)) (l.drop (k + 1)) := by
  rw [List.drop_eq_getElem_cons h, szG]; simp [h]
theorem szG_ge {X : Type} (g : Int → X → Int) : ∀ (l : List X) (left : Int), 0 ≤ left → -1 ≤ szG g left l
  | [], left, h => by simp only [szG]; omega
  | x :: t, left, h => by
    simp only [szG]
    split
    · omega
    · exact szG_ge g t _ (by omega)
theorem szG_le {X : Type} (g : Int → X → Int) (hg : ∀ a x, 0 ≤ a → g a x ≤ a) : ∀ (l : List X) (left : Int), 0 ≤ left → szG g left l ≤ left
  | [], left, h => by simp only [szG]; omega
  | x :: t, left, h => by
    simp only [szG]
    split
    · omega
    · have h1 := hg left x h
      have h2 := szG_le g hg t (g left x) (by omega)
      omega
theorem szG_mem {X : Type} (g : Int → X → Int) (hg : ∀ a x, 0 ≤ a → g a x ≤ a) : ∀ (l : List X) (left : Int), 0 ≤ left → 0 ≤ szG g left l → ∀ x ∈ l, ∃ a, 0 ≤ a ∧ a ≤ left ∧ 0 ≤ g a x
  | [], left, h, h0, x, hx => by simp at hx
  | y :: t, left, h, h0, x, hx => by
    simp only [szG] at h0
    split at h0
    · omega
    · rename_i hn
      rcases List.mem_cons.1 hx with rfl | hx
      · exact ⟨left, h, by omega, by omega⟩
      · obtain ⟨a, h1, h2, h3⟩ := szG_mem g hg t _ (by omega) h0 x hx
        have := hg left y h
        exact ⟨a, h1, by omega, h3⟩
def szFd (left : Int) (f : Fd) : Int := if szN left f.1.length < 0 then -1 else szN (szN left f.1.length) f.2.2.length
def szR {X : Type} (g : Int → X → Int) (left : Int) (l : List X) : Int := if left - (l.length : Int) < 0 then -1 else szG g (left - (l.length : Int)) l
theorem szR_le {X : Type} (g : Int → X → Int) (hg : ∀ a x, 0 ≤ a → g a x ≤ a) (left : Int) (l : List X) (h : 0 ≤ left) : -1 ≤ szR g left l ∧ szR g left l ≤ left := by
  unfold szR
  split
  · omega
  · have h1 := szG_ge g l (left - (l.length : Int)) (by omega)
    have h2 := szG_le g hg l (left - (l.length : Int)) (by omega)
    omega
def szFs (left : Int) (l : List Fd) : Int := szR szFd left l
def szFF (left : Int) (L : List (List Fd)) : Int := szR szFs left L
def szK (left : Int) (k : Tx × Bool) : Int := szN left k.1.length
def szKs (left : Int) (l : List (Tx × Bool)) : Int := szR szK left l
theorem szFd_le (left : Int) (f : Fd) (h : 0 ≤ left) : -1 ≤ szFd left f ∧ szFd left f ≤ left := by
  unfold szFd
  have h1 := szN_le left f.1.length h
  split
  · omega
  · have h2 := szN_le (szN left f.1.length) f.2.2.length (by omega)
    omega
theorem szFs_le (left : Int) (l : List Fd) (h : 0 ≤ left) : -1 ≤ szFs left l ∧ szFs left l ≤ left := szR_le _ (fun a x ha => (szFd_le a x ha).2) left l h
theorem szFF_le (left : Int) (l : List (List Fd)) (h : 0 ≤ left) : -1 ≤ szFF left l ∧ szFF left l ≤ left := szR_le _ (fun a x ha => (szFs_le a x ha).2) left l h
theorem szKs_le (left : Int) (l : List (Tx × Bool)) (h : 0 ≤ left) : -1 ≤ szKs left l ∧ szKs left l ≤ left := szR_le _ (fun a x ha => (szN_le a x.1.length ha).2) left l h
theorem HoldSK.at {w : World} {a : Option Addr} {l : List (Tx × Bool)} (h : HoldSK w a l) {i : Nat} (hi : i < l.length) : ∃ b off, a = some ⟨b, off, none⟩ ∧ b < w.heap.size ∧ w.cell? ⟨b, off + i * 2, none⟩ = some (.string (bs (l.getD i ([], false)).1)) ∧ w.cell? ⟨b, off + i * 2 + 1, none⟩ = some (.bool (l.getD i ([], false)).2) := by
  rcases h with h | ⟨b, off, ha, hbl, h⟩
  · rw [h] at hi; simp at hi
  · exact ⟨b, off, ha, hbl, h i hi⟩
/-- Lengths as the machine bounds them. -/
def FdLen (f : Fd) : Prop := f.1.length ≤ 9223372036854775807 ∧ f.2.2.length ≤ 9223372036854775807
set_option maxHeartbeats 1000000 in
theorem szInts_any (a : Option Addr) (n c : Nat) (left : Int) (w : World) (h0 : 0 ≤ left) (h1 : left ≤ 1048576) (hn : n ≤ 9223372036854775807) :
    Calls Try.prog 50 #[.slice a n c, .int .i64 left] w fun e w' => e = .returned (.int .i64 (szN left n)) ∧ w' = w := by
  by_cases h : left - (n : Int) < 0
  · have HE : Hid (szN left n = -1) := by show _ = _; rw [szN, if_pos h]
    go_enter Try.func50, Try.ntmps50
    go_wp2_with fail
    go_ret
    rw [HE.out]
    exact ⟨rfl, rfl⟩
  · have HE : Hid (szN left n = left - (n : Int)) := by show _ = _; rw [szN, if_neg h]
    go_enter Try.func50, Try.ntmps50
    go_wp2_with fail
    go_ret
    rw [HE.out]
    exact ⟨rfl, rfl⟩
set_option maxHeartbeats 2000000 in
theorem szFound_any (f : Tx) (z : Int) (an : Option Addr) (cn : Nat) (nz : List Int) (left : Int) (w : World) (h0 : 0 ≤ left) (h1 : left ≤ 1048576) (hL : FdLen (f, z, nz)) :
    Calls Try.prog 30 #[.agg #[.string (bs f), .int .i64 z, .slice an nz.length cn], .int .i64 left] w fun e w' => e = .returned (.int .i64 (szFd left (f, z, nz))) ∧ Below w.heap.size w w' := by
  obtain ⟨hL1, hL2⟩ := hL
  dsimp only at hL1 hL2
  have hfl : (bs f).size = f.length := by rw [bs_size]
  have HBa := hidd ((Below.refl w.heap.size w).alloc (Nat.le_refl _) (.cells #[.string (bs f), .int .i64 z, .slice an nz.length cn] 62))
  obtain ⟨R, hR⟩ : ∃ R, szFd left (f, z, nz) = R := ⟨_, rfl⟩
  have HR := hidd hR
  rw [hR]
  clear hR
  go_enter Try.func30, Try.ntmps30
  by_cases hf : left - (f.length : Int) < 0
  · have HE : Hid (R = -1) := by show _ = _; rw [← HR.out, szFd]; dsimp only; rw [szN, if_pos hf, if_pos (by omega)]
    go_wp2_with fail
    go_ret
    rw [HE.out]
    exact ⟨rfl, HBa.out⟩
  · have HR2 : Hid (szN (left - (f.length : Int)) nz.length = R) := by show _ = _; have := HR.out; rw [szFd] at this; dsimp only at this; rw [show szN left f.length = left - (f.length : Int) by rw [szN, if_neg hf], if_neg hf] at this; exact this
    clear HR
    have HS2 := hidd (fun W => szInts_any an nz.length cn (left - (f.length : Int)) W (by omega) (by omega) hL2)
    have hle2 := szN_le (left - (f.length : Int)) nz.length (by omega)
    rw [HR2.out] at HS2 hle2
    clear HR2
    go_wp2_with fail
    refine (HS2.out _).mono ?_
    rintro e w4 ⟨rfl, hw4⟩
    subst hw4
    dsimp only
    by_cases hRn : R < 0
    · obtain rfl : R = -1 := by omega
      go_wp2_with fail
      go_ret
      exact ⟨rfl, HBa.out⟩
    · go_wp2_with fail
      go_ret
      exact ⟨rfl, HBa.out⟩
set_option maxHeartbeats 2000000 in
theorem szSortKey_any (f : Tx) (d : Bool) (left : Int) (w : World) (h0 : 0 ≤ left) (h1 : left ≤ 1048576) (hL : f.length ≤ 9223372036854775807) :
    Calls Try.prog 18 #[.agg #[.string (bs f), .bool d], .int .i64 left] w fun e w' => e = .returned (.int .i64 (szK left (f, d))) ∧ Below w.heap.size w w' := by
  have hfl : (bs f).size = f.length := by rw [bs_size]
  have HBa := hidd ((Below.refl w.heap.size w).alloc (Nat.le_refl _) (.cells #[.string (bs f), .bool d] 44))
  by_cases hf : left - (f.length : Int) < 0
  · have HE : Hid (szK left (f, d) = -1) := by show _ = _; rw [szK]; dsimp only; rw [szN, if_pos hf]
    go_enter Try.func18, Try.ntmps18
    go_wp2_with fail
    go_ret
    rw [HE.out]
    exact ⟨rfl, HBa.out⟩
  · have HE : Hid (szK left (f, d) = left - (f.length : Int)) := by show _ = _; rw [szK]; dsimp only; rw [szN, if_neg hf]
    go_enter Try.func18, Try.ntmps18
    go_wp2_with fail
    go_ret
    rw [HE.out]
    exact ⟨rfl, HBa.out⟩
set_option maxHeartbeats 2000000 in
theorem szFoundS_any (a : Option Addr) (c : Nat) (V : List Fd) (left : Int) (w : World) (h0 : 0 ≤ left) (h1 : left ≤ 1048576) (hn : V.length ≤ 9223372036854775807) (hA : ∀ i, FdLen (V.getD i fd0)) (hS : HoldFd w a V) :
    Calls Try.prog 17 #[.slice a V.length c, .int .i64 left] w fun e w' => e = .returned (.int .i64 (szFs left V)) ∧ Below w.heap.size w w' := by
  have HS := hidd hS
  have HA := hidd hA
  clear hS hA
  by_cases h : left - (V.length : Int) < 0
  · have HE : Hid (szFs left V = -1) := by show _ = _; rw [szFs, szR, if_pos h]
    go_enter Try.func17, Try.ntmps17
    go_wp2_with fail
    go_ret
    rw [HE.out]
    exact ⟨rfl, Below.refl _ _⟩
  · obtain ⟨R, hR⟩ : ∃ R, szFs left V = R := ⟨_, rfl⟩
    rw [hR]
    have HE : Hid (szG szFd (left - (V.length : Int)) V = R) := by show _ = _; rw [← hR, szFs, szR, if_neg h]
    clear hR
    go_enter Try.func17, Try.ntmps17
    go_wp2_with fail
    go_loopw [1, 5] (fun lv iv wr => ∃ (k : Nat) (x : Int), k ≤ V.length ∧ iv = .int .i64 (k : Int) ∧ lv = .int .i64 x ∧ 0 ≤ x ∧ x ≤ 1048576 ∧ szG szFd x (V.drop k) = R ∧ Below w.heap.size w wr) (fun _ iv _ => V.length - (intOf iv).toNat)
    case atStart => exact ⟨0, _, Nat.zero_le _, rfl, rfl, by omega, by omega, by rw [List.drop_zero]; exact HE.out, Below.refl _ _⟩
    case round =>
      clear HE
      obtain ⟨k, x, hk, rfl, rfl, hx0, hx1, hgo, hbel⟩ := hrel
      have HG := hidd hgo
      have HB := hidd hbel
      clear hgo hbel
      by_cases hlt : k < V.length
      · have hkz : (k : Int) < (V.length : Int) := by omega
        obtain ⟨b, off, rfl, hbl, x0, x1, ka, kc, x2, hZ⟩ := (HS.out.below HB.out).at hlt
        clear hZ
        rw [szG_step szFd V fd0 k x hlt] at HG
        have hal := HA.out k
        generalize V.getD k fd0 = s at *
        obtain ⟨f, z, nz⟩ := s
        dsimp only at x0 x1 x2 HG
        have hs := szFd_le x (f, z, nz) hx0
        have HV := hidd (szFound_any f z ka kc nz x wr hx0 hx1 hal)
        clear hal
        generalize szFd x (f, z, nz) = X at *
        go_wp2_with fail
        refine HV.out.mono ?_
        rintro e w3 ⟨rfl, hb3⟩
        have HB3 := hidd (HB.out.trans (hb3.mono HB.out.size))
        clear hb3 HV
        dsimp only
        by_cases hX : X < 0
        · obtain rfl : X = -1 := by omega
          rw [if_pos hX] at HG
          go_wp2_with fail
          go_ret
          rw [← HG.out]
          exact ⟨rfl, HB3.out⟩
        · rw [if_neg hX] at HG
          go_wp2_with fail
          go_roundw
          case rel => exact ⟨k + 1, X, by omega, by go_num, rfl, by omega, by omega, HG.out, HB3.out⟩
          case measure => simp [intOf]; omega
      · have hkz : ¬ (k : Int) < (V.length : Int) := by omega
        rw [List.drop_of_length_le (by omega), szG] at HG
        go_wp2_with fail
        go_ret
        rw [← HG.out]
        exact ⟨rfl, HB.out⟩
set_option maxHeartbeats 2000000 in
theorem szFoundSS_any (a : Option Addr) (c : Nat) (V : List (List Fd)) (left : Int) (w : World) (h0 : 0 ≤ left) (h1 : left ≤ 1048576) (hn : V.length ≤ 9223372036854775807) (hA : ∀ i, (V.getD i []).length ≤ 9223372036854775807 ∧ ∀ j, FdLen ((V.getD i []).getD j fd0)) (hS : HoldFF w a V) :
    Calls Try.prog 4 #[.slice a V.length c, .int .i64 left] w fun e w' => e = .returned (.int .i64 (szFF left V)) ∧ Below w.heap.size w w' := by
  have HS := hidd hS
  have HA := hidd hA
  clear hS hA
  by_cases h : left - (V.length : Int) < 0
  · have HE : Hid (szFF left V = -1) := by show _ = _; rw [szFF, szR, if_pos h]
    go_enter Try.func4, Try.ntmps4
    go_wp2_with fail
    go_ret
    rw [HE.out]
    exact ⟨rfl, Below.refl _ _⟩
  · obtain ⟨R, hR⟩ : ∃ R, szFF left V = R := ⟨_, rfl⟩
    rw [hR]
    have HE : Hid (szG szFs (left - (V.length : Int)) V = R) := by show _ = _; rw [← hR, szFF, szR, if_neg h]
    clear hR
    go_enter Try.func4, Try.ntmps4
    go_wp2_with fail
    go_loopw [1, 5] (fun lv iv wr => ∃ (k : Nat) (x : Int), k ≤ V.length ∧ iv = .int .i64 (k : Int) ∧ lv = .int .i64 x ∧ 0 ≤ x ∧ x ≤ 1048576 ∧ szG szFs x (V.drop k) = R ∧ Below w.heap.size w wr) (fun _ iv _ => V.length - (intOf iv).toNat)
    case atStart => exact ⟨0, _, Nat.zero_le _, rfl, rfl, by omega, by omega, by rw [List.drop_zero]; exact HE.out, Below.refl _ _⟩
    case round =>
      clear HE
      obtain ⟨k, x, hk, rfl, rfl, hx0, hx1, hgo, hbel⟩ := hrel
      have HG := hidd hgo
      have HB := hidd hbel
      clear hgo hbel
      by_cases hlt : k < V.length
      · have hkz : (k : Int) < (V.length : Int) := by omega
        obtain ⟨b, off, rfl, hbl, ra, rc, x0, hrc, hfd⟩ := (HS.out.below HB.out).at hlt
        clear hrc
        rw [szG_step szFs V [] k x hlt] at HG
        have hal := HA.out k
        generalize V.getD k [] = s at *
        have hs := szFs_le x s hx0
        have HV := hidd (szFoundS_any ra rc s x wr hx0 hx1 hal.1 hal.2 hfd)
        clear hal hfd
        generalize szFs x s = X at *
        go_wp2_with fail
        refine HV.out.mono ?_
        rintro e w3 ⟨rfl, hb3⟩
        have HB3 := hidd (HB.out.trans (hb3.mono HB.out.size))
        clear hb3 HV
        dsimp only
        by_cases hX : X < 0
        · obtain rfl : X = -1 := by omega
          rw [if_pos hX] at HG
          go_wp2_with fail
          go_ret
          rw [← HG.out]
          exact ⟨rfl, HB3.out⟩
        · rw [if_neg hX] at HG
          go_wp2_with fail
          go_roundw
          case rel => exact ⟨k + 1, X, by omega, by go_num, rfl, by omega, by omega, HG.out, HB3.out⟩
          case measure => simp [intOf]; omega
      · have hkz : ¬ (k : Int) < (V.length : Int) := by omega
        rw [List.drop_of_length_le (by omega), szG] at HG
        go_wp2_with fail
        go_ret
        rw [← HG.out]
        exact ⟨rfl, HB.out⟩
set_option maxHeartbeats 2000000 in
theorem szSortKeyS_any (a : Option Addr) (c : Nat) (V : List (Tx × Bool)) (left : Int) (w : World) (h0 : 0 ≤ left) (h1 : left ≤ 1048576) (hn : V.length ≤ 9223372036854775807) (hA : ∀ i, (V.getD i ([], false)).1.length ≤ 9223372036854775807) (hS : HoldSK w a V) :
    Calls Try.prog 5 #[.slice a V.length c, .int .i64 left] w fun e w' => e = .returned (.int .i64 (szKs left V)) ∧ Below w.heap.size w w' := by
  have HS := hidd hS
  have HA := hidd hA
  clear hS hA
  by_cases h : left - (V.length : Int) < 0
  · have HE : Hid (szKs left V = -1) := by show _ = _; rw [szKs, szR, if_pos h]
    go_enter Try.func5, Try.ntmps5
    go_wp2_with fail
    go_ret
    rw [HE.out]
    exact ⟨rfl, Below.refl _ _⟩
  · obtain ⟨R, hR⟩ : ∃ R, szKs left V = R := ⟨_, rfl⟩
    rw [hR]
    have HE : Hid (szG szK (left - (V.length : Int)) V = R) := by show _ = _; rw [← hR, szKs, szR, if_neg h]
    clear hR
    go_enter Try.func5, Try.ntmps5
    go_wp2_with fail
    go_loopw [1, 5] (fun lv iv wr => ∃ (k : Nat) (x : Int), k ≤ V.length ∧ iv = .int .i64 (k : Int) ∧ lv = .int .i64 x ∧ 0 ≤ x ∧ x ≤ 1048576 ∧ szG szK x (V.drop k) = R ∧ Below w.heap.size w wr) (fun _ iv _ => V.length - (intOf iv).toNat)
    case atStart => exact ⟨0, _, Nat.zero_le _, rfl, rfl, by omega, by omega, by rw [List.drop_zero]; exact HE.out, Below.refl _ _⟩
    case round =>
      clear HE
      obtain ⟨k, x, hk, rfl, rfl, hx0, hx1, hgo, hbel⟩ := hrel
      have HG := hidd hgo
      have HB := hidd hbel
      clear hgo hbel
      by_cases hlt : k < V.length
      · have hkz : (k : Int) < (V.length : Int) := by omega
        obtain ⟨b, off, rfl, hbl, x0, x1⟩ := (HS.out.below HB.out).at hlt
        rw [szG_step szK V ([], false) k x hlt] at HG
        have hal := HA.out k
        generalize V.getD k ([], false) = s at *
        obtain ⟨f, d⟩ := s
        dsimp only at x0 x1 HG hal
        have hs := szN_le x f.length hx0
        have HV := hidd (szSortKey_any f d x wr hx0 hx1 hal)
        clear hal
        rw [show szN x f.length = szK x (f, d) from rfl] at hs
        generalize szK x (f, d) = X at *
        go_wp2_with fail
        refine HV.out.mono ?_
        rintro e w3 ⟨rfl, hb3⟩
        have HB3 := hidd (HB.out.trans (hb3.mono HB.out.size))
        clear hb3 HV
        dsimp only
        by_cases hX : X < 0
        · obtain rfl : X = -1 := by omega
          rw [if_pos hX] at HG
          go_wp2_with fail
          go_ret
          rw [← HG.out]
          exact ⟨rfl, HB3.out⟩
        · rw [if_neg hX] at HG
          go_wp2_with fail
          go_roundw
          case rel => exact ⟨k + 1, X, by omega, by go_num, rfl, by omega, by omega, HG.out, HB3.out⟩
          case measure => simp [intOf]; omega
      · have hkz : ¬ (k : Int) < (V.length : Int) := by omega
        rw [List.drop_of_length_le (by omega), szG] at HG
        go_wp2_with fail
        go_ret
        rw [← HG.out]
        exact ⟨rfl, HB.out⟩
end Go.Proofs.Ytcnjmjcbhelkhaa

namespace Go.Proofs.Ytcnjmjcbhelkhaa
open Go Go.RowKit
set_option linter.unusedVariables false
set_option maxRecDepth 100000
set_option linter.unusedSimpArgs false

/-! The law's copies: numbers and one hit. -/
/-- A row of its own, of type ty, that begins with the cells of l. -/
def RowF {X : Type} (mk : X → Value) (ty : TypeId) (d : X) (w : World) (g : Nat) (l : List X) : Prop := ∃ cur, w.heap[g]? = some (Obj.cells cur ty) ∧ l.length ≤ cur.size ∧ ∀ i, i < l.length → cur[i]? = some (mk (l.getD i d))
abbrev RowNz (w : World) (g : Nat) (l : List Int) : Prop := RowF mkI 3 0 w g l
theorem RowF.keep {X : Type} {mk : X → Value} {ty : TypeId} {d : X} {w w' : World} {g : Nat} {l : List X} (h : RowF mk ty d w g l) (hk : w'.heap[g]? = w.heap[g]?) : RowF mk ty d w' g l := by
  obtain ⟨cur, h1, h2, h3⟩ := h
  exact ⟨cur, hk.trans h1, h2, h3⟩
theorem RowF.lt {X : Type} {mk : X → Value} {ty : TypeId} {d : X} {w : World} {g : Nat} {l : List X} (h : RowF mk ty d w g l) : g < w.heap.size := by
  obtain ⟨cur, h1, h2, h3⟩ := h
  exact (Array.getElem?_eq_some_iff.1 h1).1
theorem RowF.below {X : Type} {mk : X → Value} {ty : TypeId} {d : X} {w w' : World} {g : Nat} {l : List X} (h : RowF mk ty d w g l) (hb : Below w.heap.size w w') : RowF mk ty d w' g l := h.keep (hb.block g h.lt)
theorem RowNz.hold {w : World} {g : Nat} {l : List Int} (h : RowNz w g l) : HoldZ w (some ⟨g, 0, none⟩) l := by
  refine Or.inr ⟨g, 0, rfl, h.lt, fun i hi => ?_⟩
  obtain ⟨cur, h1, h2, h3⟩ := h
  rw [Nat.zero_add, blkc h1, h3 i hi]; rfl
theorem row_own {X : Type} (mk : X → Value) (l : List X) (d : X) {w : World} {base g : Nat} {ty : TypeId} (h : w.ownsRow base ty 1 (.slice (some ⟨g, 0, none⟩) l.length l.length) l.length (l.map mk)) : RowF mk ty d w g l := by
  rcases h.2 with ⟨h', _⟩ | ⟨g', cap, cur, h', _, hg, hc1, hc2, hc3, hc4⟩
  · simp at h'
  · simp only [Value.slice.injEq, Option.some.injEq, Addr.mk.injEq, and_true, true_and] at h'
    obtain ⟨rfl, rfl⟩ := h'
    refine ⟨cur, hg, by omega, fun i hi => ?_⟩
    have := h.cellAt i (by omega)
    rw [blkc hg] at this
    rw [this]
    simp [hi]
theorem setOne {X : Type} (mk : X → Value) (l : List X) (d : X) (k : Nat) (xs : List Value) (hx : xs.length = l.length) (hk : k < l.length) : ((l.take k).map mk ++ xs.drop k).set k (mk (l.getD k d)) = (l.take (k + 1)).map mk ++ xs.drop (k + 1) := by
  have e : ((l.take k).map mk).length = k := by simp; omega
  rw [List.set_append_right _ _ (by omega), e, Nat.sub_self, List.drop_eq_getElem_cons (l := xs) (i := k) (by omega), List.set_cons_zero, List.take_succ_eq_append_getElem hk, List.getD_eq_getElem?_getD, List.getElem?_eq_getElem hk, List.map_append, List.append_assoc]
  rfl
set_option maxHeartbeats 2000000 in
theorem toNz_any (a : Option Addr) (cap : Nat) (l : List Int) (w : World) (hn : l.length ≤ 1048576) (hS : HoldZ w a l) :
    Calls Try.prog 51 #[.slice a l.length cap] w fun e w' => e = .returned (.slice (some ⟨w.heap.size, 0, none⟩) l.length l.length) ∧ RowNz w' w.heap.size l ∧ Below w.heap.size w w' := by
  obtain ⟨i0, hi, hz0, hz1, hz2⟩ := info_parts Try.infoIntM
  have HS := hidd hS
  clear hS
  go_enter Try.func51, Try.ntmps51
  go_wp2_with (at_make; refine wpList_make_full _ rfl _ _ 45 rfl w.heap.size 3 i0 (.int .i64 0) 1 Try.underlying45 hi hz0 hz1 _ _ _ _ l.length rfl rfl (by omega) (by omega) ?b2 ?b3 (Nat.le_refl _) ?_)
  case b2 => (first | omega | (rw [hz2]; omega))
  case b3 => unfold maxLen; omega
  intro w0 hown0 hgrow0
  generalize (madeCells #[Value.int .i64 0] l.length).toList = xs at hown0
  have hxl : xs.length = l.length := by have := hown0.1; omega
  have HO0 := hidd hown0
  have HB0 : Hid (Below w.heap.size w w0) := (Below.refl _ _).grown hgrow0 (Nat.le_refl _) (fun k h => by cases h)
  clear hown0 hgrow0
  go_wp2
  go_loopw [4] (fun i wr => ∃ k : Nat, k ≤ l.length ∧ i = .int .i64 k ∧ wr.ownsRow w.heap.size 3 1 (.slice (some ⟨w.heap.size, 0, none⟩) l.length l.length) l.length ((l.take k).map mkI ++ xs.drop k) ∧ Below w.heap.size w wr) (fun i _ => l.length - (intOf i).toNat)
  case atStart => exact ⟨0, Nat.zero_le _, rfl, HO0.out, HB0.out⟩
  case round =>
    obtain ⟨k, hk, rfl, hown, hbel⟩ := hrel
    have HO := hidd hown
    have HB := hidd hbel
    by_cases hlt : k < l.length
    · obtain ⟨b, off, rfl, hbl, hc⟩ := HS.out.resolve_left (fun h => by rw [h] at hlt; simp at hlt)
      have g1 := (hbel.cell (p := ⟨b, off + k, none⟩) hbl).trans (hc k hlt)
      have f1 := hown.frozenAt k
      have hex : ∃ u, wr.cell? ⟨w.heap.size, k, none⟩ = some u := by
        rw [hown.cellAt k (by omega)]
        have hlen : k < ((l.take k).map mkI ++ xs.drop k).length := by rw [List.length_append, List.length_map, List.length_take, List.length_drop]; omega
        exact ⟨_, List.getElem?_eq_getElem hlen⟩
      obtain ⟨u, q1⟩ := hex
      have HSet := hidd (setOne mkI l 0 k xs hxl hlt)
      generalize l.getD k 0 = t at *
      clear hown hbel hc
      go_wp2
      go_roundw
      case rel =>
        have st := (HO.out.stored k (mkI t)).1
        rw [HSet.out] at st
        exact ⟨k + 1, by omega, by go_num, st, HB.out.setCell (p := ⟨w.heap.size, k, none⟩) (Nat.le_refl _) _⟩
      case measure => simp [intOf]; omega
    · have HF := HO.out
      rw [List.take_of_length_le (by omega), List.drop_of_length_le (by omega), List.append_nil] at HF
      have HF2 := hidd (row_own mkI l 0 HF)
      clear HF hown hbel
      go_wp2
      go_ret
      exact ⟨rfl, HF2.out, HB.out⟩
set_option maxHeartbeats 4000000 in
theorem toFound_any (f : Tx) (z : Int) (an : Option Addr) (cn : Nat) (nz : List Int) (w : World) (hnl : nz.length ≤ 1048576) (hZ : HoldZ w an nz) :
    Calls Try.prog 31 #[.agg #[.string (bs f), .int .i64 z, .slice an nz.length cn]] w fun e w' => ∃ gn, e = .returned (.agg #[.string (bs f), .int .i64 z, .slice (some ⟨gn, 0, none⟩) nz.length nz.length]) ∧ w.heap.size ≤ gn ∧ RowNz w' gn nz ∧ Below w.heap.size w w' := by
  have HZ := hidd hZ
  clear hZ
  obtain ⟨fs, hfs⟩ : ∃ x, bs f = x := ⟨_, rfl⟩
  rw [hfs]
  clear hfs
  go_enter Try.func31, Try.ntmps31
  go_upto_region 4 with fail
  obtain ⟨W3, hW3⟩ : ∃ W3, ((w.alloc (.cells #[.string fs, .int .i64 z, .slice an nz.length cn] 62)).alloc (.cells #[.string ⟨#[]⟩, .int .i64 0, .slice none 0 0] 47)).alloc (.cells #[.string fs, .int .i64 z, .slice none 0 0] 47) = W3 := ⟨_, rfl⟩
  have hk0 : W3.heap[w.heap.size]? = some (.cells #[.string fs, .int .i64 z, .slice an nz.length cn] 62) ∧ W3.heap[w.heap.size + 1]? = some (.cells #[.string ⟨#[]⟩, .int .i64 0, .slice none 0 0] 47) ∧ W3.heap[w.heap.size + 1 + 1]? = some (.cells #[.string fs, .int .i64 z, .slice none 0 0] 47) ∧ W3.heap.size = w.heap.size + 3 := by
    rw [← hW3]
    have h2 := box_two w (.cells #[.string fs, .int .i64 z, .slice an nz.length cn] 62) (.cells #[.string ⟨#[]⟩, .int .i64 0, .slice none 0 0] 47)
    refine ⟨?_, ?_, ?_, by simp⟩
    · rw [Below.heap_alloc _ _ _ (by simp; omega)]; exact h2.1
    · rw [Below.heap_alloc _ _ _ (by simp)]; exact h2.2
    · have := heap_alloc_new ((w.alloc (.cells #[.string fs, .int .i64 z, .slice an nz.length cn] 62)).alloc (.cells #[.string ⟨#[]⟩, .int .i64 0, .slice none 0 0] 47)) (.cells #[.string fs, .int .i64 z, .slice none 0 0] 47)
      simpa using this
  have HB3 : Hid (Below w.heap.size w W3) := by
    show Below _ _ _
    rw [← hW3]
    exact (((Below.refl _ _).alloc (Nat.le_refl _) _).alloc (by simp) _).alloc (by simp; omega) _
  try rw [hW3]
  clear hW3
  have HK := hidd hk0
  clear hk0
  have hz3 := HK.out.2.2.2
  have q2 : W3.cell? ⟨w.heap.size, 2, none⟩ = some (.slice an nz.length cn) := blkc HK.out.1 2
  have HC2 := hidd (toNz_any an cn nz W3 hnl (HZ.out.below HB3.out))
  go_wp2_with fail
  refine HC2.out.mono ?_
  rintro e w6 ⟨rfl, hr6, hb6⟩
  have HR6 := hidd hr6
  have HB6 := hidd (HB3.out.trans (hb6.mono HB3.out.size))
  have k1 := blko HK.out.2.1 hb6
  have k2 := blko HK.out.2.2.1 hb6
  have hz6 := hb6.size
  have c10 := blkc k1 0
  have c11 := blkc k1 1
  have c12 := blkc k1 2
  have c20 := blkc k2 0
  have c21 := blkc k2 1
  have c22 := blkc k2 2
  have f10 := frozen_of_row w6 _ 0 _ _ k1
  have f11 := frozen_of_row w6 _ 1 _ _ k1
  have f12 := frozen_of_row w6 _ 2 _ _ k1
  have f22 := frozen_of_row w6 _ 2 _ _ k2
  clear hr6 hb6 HC2 q2 HK HB3 k1 k2
  rw [hz3] at HR6 hz6
  try rw [hz3]
  clear hz3
  dsimp only
  go_wp2_with fail
  refine bodyPost_ret (v := .agg #[.string fs, .int .i64 z, .slice (some ⟨w.heap.size + 3, 0, none⟩) nz.length nz.length]) (by simp [results, Try.results31, go_sem, *]) rfl ?_
  refine ⟨w.heap.size + 3, rfl, by omega, ?_, ?_⟩
  · refine HR6.out.keep ?_
    iterate 4 rw [heap_set_other _ _ _ _ _ (by omega)]
  · iterate 4 refine Below.setCell ?_ (by dsimp only; omega) _
    exact HB6.out
end Go.Proofs.Ytcnjmjcbhelkhaa
