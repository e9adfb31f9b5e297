import Derived.Test.YtjndogajdlophaaDcM
namespace Go.Proofs.Ytjndogajdlophaa
open Go Go.RowKit
set_option linter.unusedVariables false

def szN (left : Int) (n : Nat) : Int := if left - (n : Int) < 0 then -1 else left - (n : Int)
def szGoD : Int → List St → Int
  | left, [] => left
  | left, s :: t => if szN left s.2.length < 0 then -1 else szGoD (szN left s.2.length) t
def szD (left : Int) (S : List St) : Int := if left - (S.length : Int) < 0 then -1 else szGoD (left - (S.length : Int)) S
theorem szGoD_ok : ∀ (S : List St) (left : Int), 0 ≤ szGoD left S → szGoD left S ≤ left ∧ ∀ s ∈ S, (s.2.length : Int) ≤ left
  | [], left, h => ⟨by simp [szGoD], by simp⟩
  | s :: t, left, h => by
    simp only [szGoD] at h ⊢
    split at h
    · omega
    · rename_i hn
      rw [if_neg hn]
      have hs : (s.2.length : Int) ≤ left ∧ szN left s.2.length ≤ left := by
        unfold szN at hn ⊢
        split at hn
        · omega
        · rename_i h2; rw [if_neg h2]; omega
      obtain ⟨h1, h2⟩ := szGoD_ok t _ h
      refine ⟨by omega, fun x hx => ?_⟩
      rcases List.mem_cons.1 hx with rfl | hx
      · exact hs.1
      · have := h2 x hx; omega
theorem szD_ok {S : List St} (h : 0 ≤ szD 1048576 S) : S.length ≤ 1048576 ∧ ∀ i, (arcsAt S i).length ≤ 1048576 := by
  unfold szD at h
  split at h
  · omega
  · obtain ⟨h1, h2⟩ := szGoD_ok S _ h
    refine ⟨by omega, fun i => ?_⟩
    by_cases hi : i < S.length
    · have : S.getD i st0 ∈ S := by rw [List.getD_eq_getElem?_getD, List.getElem?_eq_getElem hi]; exact List.getElem_mem _
      have := h2 _ this
      unfold arcsAt
      omega
    · simp [arcsAt, hi, st0]
theorem szN_le (left : Int) (n : Nat) (h0 : 0 ≤ left) : -1 ≤ szN left n ∧ szN left n ≤ left := by
  unfold szN; split <;> omega
theorem szGoD_step (S : List St) (k : Nat) (left : Int) (h : k < S.length) : szGoD left (S.drop k) = if szN left (S.getD k st0).2.length < 0 then -1 else szGoD (szN left (S.getD k st0).2.length) (S.drop (k + 1)) := by
  rw [List.drop_eq_getElem_cons h, szGoD]; simp [h]

set_option maxHeartbeats 1000000 in
theorem szArcs_any (a : Option Addr) (n c : Nat) (left : Int) (w : World) (h0 : 0 ≤ left) (h1 : left ≤ 1048576) (hn : n ≤ 9223372036854775807) :
    Calls Try.prog 86 #[.slice a n c, .int .i64 left] w fun e w' => e = .returned (.int .i64 (szN left n)) ∧ w' = w := by
  by_cases h : left - (n : Int) < 0
  · have HE : Hid (szN left n = -1) := by show _ = _; rw [szN, if_pos h]
    go_enter Try.func86, Try.ntmps86
    go_wp2_with fail
    go_ret
    rw [HE.out]
    exact ⟨rfl, rfl⟩
  · have HE : Hid (szN left n = left - (n : Int)) := by show _ = _; rw [szN, if_neg h]
    go_enter Try.func86, Try.ntmps86
    go_wp2_with fail
    go_ret
    rw [HE.out]
    exact ⟨rfl, rfl⟩
set_option maxHeartbeats 1000000 in
theorem szState_any (f : Bool) (a : Option Addr) (n c : Nat) (left : Int) (w : World) (h0 : 0 ≤ left) (h1 : left ≤ 1048576) (hn : n ≤ 9223372036854775807) :
    Calls Try.prog 53 #[.agg #[.bool f, .slice a n c], .int .i64 left] w fun e w' => e = .returned (.int .i64 (szN left n)) ∧ Below w.heap.size w w' := by
  have HBa : Hid (Below w.heap.size w (w.alloc (.cells #[.bool f, .slice a n c] 101))) := (Below.refl _ _).alloc (Nat.le_refl _) _
  have hs := szN_le left n h0
  obtain ⟨X, hX0⟩ : ∃ X, szN left n = X := ⟨_, rfl⟩
  rw [hX0] at hs ⊢
  have HX := hidd hX0
  clear hX0
  go_enter Try.func53, Try.ntmps53
  go_wp2_with fail
  refine (szArcs_any a n c left _ h0 h1 hn).mono ?_
  rintro e w' ⟨rfl, hw'⟩
  subst hw'
  rw [HX.out]
  by_cases hX : X < 0
  · obtain rfl : X = -1 := by omega
    go_wp2_with fail
    go_ret
    exact ⟨rfl, HBa.out⟩
  · go_wp2_with fail
    go_ret
    exact ⟨rfl, HBa.out⟩
set_option maxHeartbeats 2000000 in
set_option maxRecDepth 100000 in
theorem szStates_any (a : Option Addr) (c : Nat) (S : List St) (left : Int) (w : World) (h0 : 0 ≤ left) (h1 : left ≤ 1048576) (hn : S.length ≤ 9223372036854775807) (hA : ∀ i, (arcsAt S i).length ≤ 9223372036854775807) (hS : HoldS w a S) :
    Calls Try.prog 25 #[.slice a S.length c, .int .i64 left] w fun e w' => e = .returned (.int .i64 (szD left S)) ∧ Below w.heap.size w w' := by
  have HS := hidd hS
  have HA := hidd hA
  clear hS hA
  by_cases h : left - (S.length : Int) < 0
  · have HE : Hid (szD left S = -1) := by show _ = _; rw [szD, if_pos h]
    go_enter Try.func25, Try.ntmps25
    go_wp2_with fail
    go_ret
    rw [HE.out]
    exact ⟨rfl, Below.refl _ _⟩
  · obtain ⟨R, hR⟩ : ∃ R, szD left S = R := ⟨_, rfl⟩
    rw [hR]
    have HE : Hid (szGoD (left - (S.length : Int)) S = R) := by show _ = _; rw [← hR, szD, if_neg h]
    clear hR
    go_enter Try.func25, Try.ntmps25
    go_wp2_with fail
    go_loopw [1, 5] (fun lv iv wr => ∃ (k : Nat) (x : Int), k ≤ S.length ∧ iv = .int .i64 (k : Int) ∧ lv = .int .i64 x ∧ 0 ≤ x ∧ x ≤ 1048576 ∧ szGoD x (S.drop k) = R ∧ Below w.heap.size w wr) (fun _ iv _ => S.length - (intOf iv).toNat)
    case atStart => exact ⟨0, _, Nat.zero_le _, rfl, rfl, by omega, by omega, by rw [List.drop_zero]; exact HE.out, Below.refl _ _⟩
    case round =>
      clear HE
      obtain ⟨k, x, hk, rfl, rfl, hx0, hx1, hgo, hbel⟩ := hrel
      have HG := hidd hgo
      have HB := hidd hbel
      clear hgo hbel
      by_cases hlt : k < S.length
      · have hkz : (k : Int) < (S.length : Int) := by omega
        obtain ⟨b, off, rfl, hbl, hc⟩ := (HS.out.below HB.out).resolve_left (fun h => by rw [h] at hlt; simp at hlt)
        obtain ⟨x0, ai, ci, x1, hha⟩ := hc k hlt
        clear hc hha
        rw [szGoD_step S k x hlt] at HG
        have hal := HA.out k
        rw [arcsAt] at hal
        generalize S.getD k st0 = s at *
        obtain ⟨f, l⟩ := s
        dsimp only at x0 x1 HG hal
        have hs := szN_le x l.length hx0
        go_wp2_with fail
        refine (szState_any f ai l.length ci x _ hx0 hx1 hal).mono ?_
        rintro e w3 ⟨rfl, hb3⟩
        have HB3 := hidd (HB.out.trans (hb3.mono HB.out.size))
        clear hb3
        generalize szN x l.length = X at *
        by_cases hX : X < 0
        · obtain rfl : X = -1 := by omega
          rw [if_pos hX] at HG
          go_wp2_with fail
          go_ret
          rw [← HG.out]
          exact ⟨rfl, HB3.out⟩
        · rw [if_neg hX] at HG
          go_wp2_with fail
          go_roundw
          case rel => exact ⟨k + 1, X, by omega, by go_num, rfl, by omega, by omega, HG.out, HB3.out⟩
          case measure => simp [intOf]; omega
      · have hkz : ¬ (k : Int) < (S.length : Int) := by omega
        rw [List.drop_of_length_le (by omega), szGoD] at HG
        go_wp2_with fail
        go_ret
        rw [← HG.out]
        exact ⟨rfl, HB.out⟩
set_option maxHeartbeats 1000000 in
theorem szDict_any (c : Int) (a : Option Addr) (cap : Nat) (S : List St) (w : World) (hn : S.length ≤ 9223372036854775807) (hA : ∀ i, (arcsAt S i).length ≤ 9223372036854775807) (hS : HoldS w a S) :
    Calls Try.prog 6 #[.agg #[.int .i64 c, .slice a S.length cap], .int .i64 1048576] w fun e w' => e = .returned (.int .i64 (szD 1048576 S)) ∧ Below w.heap.size w w' := by
  have HBa : Hid (Below w.heap.size w (w.alloc (.cells #[.int .i64 c, .slice a S.length cap] 24))) := (Below.refl _ _).alloc (Nat.le_refl _) _
  have HS := hidd hS
  clear hS
  obtain ⟨X, hX0⟩ : ∃ X, szD 1048576 S = X := ⟨_, rfl⟩
  have hge : -1 ≤ X := by
    rw [← hX0]
    unfold szD
    split
    · omega
    · have key : ∀ (t : List St) (l : Int), 0 ≤ l → -1 ≤ szGoD l t := by
        intro t
        induction t with
        | nil => intro l hl; simp [szGoD]; omega
        | cons s t ih =>
          intro l hl
          simp only [szGoD]
          split
          · omega
          · exact ih _ (by omega)
      exact key S _ (by omega)
  rw [hX0]
  have HX := hidd hX0
  clear hX0
  go_enter Try.func6, Try.ntmps6
  go_wp2_with fail
  refine (szStates_any a cap S 1048576 _ (by omega) (by omega) hn hA (HS.out.below HBa.out)).mono ?_
  rintro e w3 ⟨rfl, hb3⟩
  have HB3 := hidd (HBa.out.trans (hb3.mono HBa.out.size))
  clear hb3
  rw [HX.out]
  by_cases hX : X < 0
  · obtain rfl : X = -1 := by omega
    go_wp2_with fail
    go_ret
    exact ⟨rfl, HB3.out⟩
  · go_wp2_with fail
    go_ret
    exact ⟨rfl, HB3.out⟩
end Go.Proofs.Ytjndogajdlophaa
