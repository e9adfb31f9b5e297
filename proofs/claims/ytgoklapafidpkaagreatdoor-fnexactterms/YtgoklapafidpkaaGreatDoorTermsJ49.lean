import Derived.Test.YtgoklapafidpkaaGreatDoorTermsJ06
import Derived.Test.YtgoklapafidpkaaGreatDoorTermsJ07
import Derived.BigQuiet
import Derived.Deep.QuietTactic
import Derived.Deep.RegionWith
namespace Go.Proofs.YtgoklapafidpkaaGreatDoor
open Go Go.RowKit
set_option linter.unusedVariables false

theorem grown_below {w w' : World} (h : Below w.heap.size w w') (g : Nat) : w.grownBy w' (some g) := ⟨h.os, h.tape, h.output, h.size, fun k hk _ => h.block k hk⟩
set_option maxHeartbeats 400000 in
theorem eqToken_same (t : ByteArray) (a b c : Int) (w : World) :
    Calls Tryz.prog 42 #[.agg #[.string t, .int .i64 a, .int .i64 b, .int .i64 c], .agg #[.string t, .int .i64 a, .int .i64 b, .int .i64 c]] w fun e w' => e = .returned (.bool true) ∧ Below w.heap.size w w' := by
  go_enter Tryz.func42, Tryz.ntmps42
  go_wp2
  go_ret
  exact ⟨rfl, ((Below.refl _ _).alloc (Nat.le_refl _) _).alloc (by simp) _⟩
set_option maxHeartbeats 1000000 in
theorem eqToks_some (g1 c1 g2 c2 n : Nat) (T : Nat → ByteArray) (A B C : Nat → Int) (w : World) (hn : n ≤ 1048576) (hg1 : g1 < w.heap.size) (hg2 : g2 < w.heap.size)
    (h1 : ∀ t, t < n → w.cell? ⟨g1, t * 4, none⟩ = some (.string (T t)) ∧ w.cell? ⟨g1, t * 4 + 1, none⟩ = some (.int .i64 (A t)) ∧ w.cell? ⟨g1, t * 4 + 2, none⟩ = some (.int .i64 (B t)) ∧ w.cell? ⟨g1, t * 4 + 3, none⟩ = some (.int .i64 (C t)))
    (h2 : ∀ t, t < n → w.cell? ⟨g2, t * 4, none⟩ = some (.string (T t)) ∧ w.cell? ⟨g2, t * 4 + 1, none⟩ = some (.int .i64 (A t)) ∧ w.cell? ⟨g2, t * 4 + 2, none⟩ = some (.int .i64 (B t)) ∧ w.cell? ⟨g2, t * 4 + 3, none⟩ = some (.int .i64 (C t))) :
    Calls Tryz.prog 16 #[.slice (some ⟨g1, 0, none⟩) n c1, .slice (some ⟨g2, 0, none⟩) n c2] w fun e w' => e = .returned (.bool true) ∧ Below w.heap.size w w' := by
  have H1 := hidd h1
  have H2 := hidd h2
  clear h1 h2
  go_enter Tryz.func16, Tryz.ntmps16
  go_wp2
  go_loopw [5] (fun i wr => ∃ k : Nat, k ≤ n ∧ i = .int .i64 k ∧ Below w.heap.size w wr) (fun i _ => n - (intOf i).toNat)
  case atStart => exact ⟨0, Nat.zero_le _, rfl, Below.refl _ _⟩
  case round =>
    obtain ⟨k, hk, rfl, hbel⟩ := hrel
    by_cases hlt : k < n
    · obtain ⟨p0, p1, p2, p3⟩ := H1.out k hlt
      obtain ⟨q0, q1, q2, q3⟩ := H2.out k hlt
      rw [← hbel.cell (p := ⟨g1, k * 4, none⟩) hg1] at p0
      rw [← hbel.cell (p := ⟨g1, k * 4 + 1, none⟩) hg1] at p1
      rw [← hbel.cell (p := ⟨g1, k * 4 + 2, none⟩) hg1] at p2
      rw [← hbel.cell (p := ⟨g1, k * 4 + 3, none⟩) hg1] at p3
      rw [← hbel.cell (p := ⟨g2, k * 4, none⟩) hg2] at q0
      rw [← hbel.cell (p := ⟨g2, k * 4 + 1, none⟩) hg2] at q1
      rw [← hbel.cell (p := ⟨g2, k * 4 + 2, none⟩) hg2] at q2
      rw [← hbel.cell (p := ⟨g2, k * 4 + 3, none⟩) hg2] at q3
      have hz := hbel.size
      go_wp2
      go_region_with (go_at_call 42; refine (eqToken_same _ _ _ _ _).mono ?_; rintro e' w2 ⟨rfl, hb2⟩)
      all_goals
        have hb3 : Below w.heap.size w w2 := by first | exact hbel.trans (hb2.mono hz) | exact hbel.drew.trans (hb2.mono hz) | exact hbel.drew.drew.trans (hb2.mono hz) | exact hbel.drew.drew.drew.trans (hb2.mono hz) | exact hbel.drew.drew.drew.drew.trans (hb2.mono hz)
        clear hb2 p0 p1 p2 p3 q0 q1 q2 q3
        go_wp2
        go_roundw
        case rel => exact ⟨k + 1, by omega, by go_num, hb3⟩
        case measure => simp [intOf]; omega
    · go_wp2
      go_ret
      exact ⟨rfl, hbel⟩
/-- What a marked list of words holds, from the number c on. -/
def markTk (c : Int) (i : Nat) : List Value := [.string (mkText (c + 4 * (i : Int))), .int .i64 (c + 4 * (i : Int) + 1), .int .i64 (c + 4 * (i : Int) + 1 + 1), .int .i64 (c + 4 * (i : Int) + 1 + 1 + 1)]
def markTks (c : Int) (n : Nat) : List Value := (List.range n).flatMap (markTk c)
theorem markTks_succ (c : Int) (n : Nat) : markTks c (n + 1) = markTks c n ++ markTk c n := by simp [markTks, List.range_succ]
theorem markTks_len (c : Int) (n : Nat) : (markTks c n).length = n * 4 := by
  induction n with
  | zero => rfl
  | succ n ih => rw [markTks_succ, List.length_append, ih]; simp [markTk]; omega
theorem marked_at (c : Int) (n k j : Nat) (hk : k < n) (hj : j < 4) : (markTks c n)[k * 4 + j]? = (markTk c k)[j]? := by
  induction n with
  | zero => omega
  | succ n ih =>
    rw [markTks_succ]
    by_cases h : k < n
    · rw [List.getElem?_append_left (by rw [markTks_len]; omega), ih h]
    · obtain rfl : k = n := by omega
      rw [List.getElem?_append_right (by rw [markTks_len]; omega), markTks_len]
      congr 1
      omega
theorem marks4_set (c : Int) (k : Nat) (xs : List Value) (n : Nat) (hl : xs.length = n * 4) (hk : k < n) :
    ((((markTks c k ++ xs.drop (k * 4)).set (k * 4) (.string (mkText (c + 4 * (k : Int))))).set (k * 4 + 1) (.int .i64 (c + 4 * (k : Int) + 1))).set (k * 4 + 2) (.int .i64 (c + 4 * (k : Int) + 1 + 1))).set (k * 4 + 3) (.int .i64 (c + 4 * (k : Int) + 1 + 1 + 1)) = markTks c (k + 1) ++ xs.drop ((k + 1) * 4) := by
  have e := markTks_len c k
  obtain ⟨a, b, d, f, r, hx⟩ : ∃ a b d f r, xs.drop (k * 4) = a :: b :: d :: f :: r := by
    have hlen : 4 ≤ (xs.drop (k * 4)).length := by rw [List.length_drop]; omega
    match hm : xs.drop (k * 4), hlen with
    | a :: b :: d :: f :: r, _ => exact ⟨a, b, d, f, r, rfl⟩
    | [], h => simp at h
    | [_], h => simp at h
    | [_, _], h => simp at h
    | [_, _, _], h => simp at h
  have hr : xs.drop ((k + 1) * 4) = r := by
    have : xs.drop ((k + 1) * 4) = (xs.drop (k * 4)).drop 4 := by rw [List.drop_drop]; congr 1; omega
    rw [this, hx]; rfl
  rw [hx, hr, markTks_succ]
  rw [List.set_append_right _ _ (by omega), List.set_append_right _ _ (by omega), List.set_append_right _ _ (by omega), List.set_append_right _ _ (by omega)]
  rw [e]
  simp [markTk]
set_option maxHeartbeats 2000000 in
theorem markToks_some (base g n cap : Nat) (xs : List Value) (c : Int) (w : World) (hn : n ≤ 1048576) (h0 : 1 ≤ c) (h1 : c ≤ 1073741824) (hbz : base ≤ w.heap.size) (hown : w.ownsRow base 63 4 (.slice (some ⟨g, 0, none⟩) n cap) n xs) :
    Calls Tryz.prog 19 #[.slice (some ⟨g, 0, none⟩) n cap, .int .i64 c] w fun e w' => e = .returned (.int .i64 (c + 4 * (n : Int))) ∧
      w'.ownsRow base 63 4 (.slice (some ⟨g, 0, none⟩) n cap) n (markTks c n) ∧ w.grownBy w' (some g) := by
  have hl : xs.length = n * 4 := hown.1
  have HO := hidd hown
  clear hown
  go_enter Tryz.func19, Tryz.ntmps19
  go_wp2
  go_loopw [1, 5] (fun cv i wr => ∃ k : Nat, k ≤ n ∧ i = .int .i64 k ∧ cv = .int .i64 (c + 4 * (k : Int)) ∧ wr.ownsRow base 63 4 (.slice (some ⟨g, 0, none⟩) n cap) n (markTks c k ++ xs.drop (k * 4)) ∧ w.grownBy wr (some g)) (fun _ i _ => n - (intOf i).toNat)
  case atStart => exact ⟨0, Nat.zero_le _, rfl, by simp, by simpa [markTks] using HO.out, grown_refl _ _⟩
  case round =>
    obtain ⟨k, hk, rfl, rfl, hown, hgr⟩ := hrel
    by_cases hlt : k < n
    · go_wp2_with fail
      refine (markText_any _ _ (by omega) (by omega)).mono ?_
      rintro e' w2 ⟨rfl, hb2⟩
      have hown2 := own4_below hown hb2
      have hgr2 := grown_trans hgr (grown_below hb2 g)
      clear hown hgr hb2
      have hlen : (markTks c k ++ xs.drop (k * 4)).length = n * 4 := hown2.1
      have f0 := hown2.frozenAt (k * 4)
      have f1 := hown2.frozenAt (k * 4 + 1)
      have f2 := hown2.frozenAt (k * 4 + 2)
      have f3 := hown2.frozenAt (k * 4 + 3)
      have cex : ∀ j, j < n * 4 → ∃ u, w2.cell? ⟨g, j, none⟩ = some u := fun j hj => by rw [hown2.cellAt j hj]; exact ⟨_, List.getElem?_eq_getElem (by rw [hlen]; exact hj)⟩
      obtain ⟨u0, q0⟩ := cex (k * 4) (by omega)
      obtain ⟨u1, q1⟩ := cex (k * 4 + 1) (by omega)
      obtain ⟨u2, q2⟩ := cex (k * 4 + 2) (by omega)
      obtain ⟨u3, q3⟩ := cex (k * 4 + 3) (by omega)
      have HO2 := hidd hown2
      have HG2 := hidd hgr2
      clear hown2 hgr2 cex hlen
      generalize hT : mkText (c + 4 * (k : Int)) = T
      have HT := hidd hT
      clear hT
      go_wp2
      go_roundw
      case rel =>
        have s0 := HO2.out.stored (k * 4) (.string T)
        have s1 := s0.1.stored (k * 4 + 1) (.int .i64 (c + 4 * (k : Int) + 1))
        have s2 := s1.1.stored (k * 4 + 2) (.int .i64 (c + 4 * (k : Int) + 1 + 1))
        have s3 := s2.1.stored (k * 4 + 3) (.int .i64 (c + 4 * (k : Int) + 1 + 1 + 1))
        refine ⟨k + 1, by omega, by go_num, by go_num, ?_, grown_trans HG2.out (grown_trans s0.2 (grown_trans s1.2 (grown_trans s2.2 s3.2)))⟩
        have h := s3.1
        rw [← HT.out, marks4_set c k xs n hl hlt] at h
        rw [← HT.out]
        exact h
      case measure => simp [intOf]; omega
    · have HK : Hid (k = n) := by show k = n; omega
      go_wp2
      go_ret
      obtain rfl := HK.out
      refine ⟨rfl, ?_, hgr⟩
      rw [List.drop_of_length_le (by omega), List.append_nil] at hown
      exact hown
set_option maxHeartbeats 2000000 in
theorem heldToks_some (base g n cap : Nat) (c : Int) (w : World) (hn : n ≤ 1048576) (h0 : 1 ≤ c) (h1 : c ≤ 1073741824) (hgz : g < w.heap.size) (hown : w.ownsRow base 63 4 (.slice (some ⟨g, 0, none⟩) n cap) n (markTks c n)) :
    Calls Tryz.prog 20 #[.slice (some ⟨g, 0, none⟩) n cap, .int .i64 c] w fun e w' => e = .returned (.int .i64 (c + 4 * (n : Int))) ∧ Below w.heap.size w w' := by
  have hc : Hid (∀ k j, k < n → j < 4 → w.cell? ⟨g, k * 4 + j, none⟩ = (markTk c k)[j]?) := fun k j hk hj => by rw [hown.cellAt (k * 4 + j) (by omega)]; exact marked_at c n k j hk hj
  clear hown
  go_enter Tryz.func20, Tryz.ntmps20
  go_wp2
  go_loopw [1, 5] (fun cv i wr => ∃ k : Nat, k ≤ n ∧ i = .int .i64 k ∧ cv = .int .i64 (c + 4 * (k : Int)) ∧ Below w.heap.size w wr) (fun _ i _ => n - (intOf i).toNat)
  case atStart => exact ⟨0, Nat.zero_le _, rfl, by simp, Below.refl _ _⟩
  case round =>
    obtain ⟨k, hk, rfl, rfl, hbel⟩ := hrel
    by_cases hlt : k < n
    · have q0 : wr.cell? ⟨g, k * 4, none⟩ = some (.string (mkText (c + 4 * (k : Int)))) := (hbel.cell (p := ⟨g, k * 4, none⟩) hgz).trans (hc.out k 0 hlt (by omega))
      have q1 := hidd (hc.out k 1 hlt (by omega))
      have q2 := hidd (hc.out k 2 hlt (by omega))
      have q3 := hidd (hc.out k 3 hlt (by omega))
      have hz := hbel.size
      have hmt := hidd (fun wx => markText_any (c + 4 * (k : Int)) wx (by omega) (by omega))
      generalize mkText (c + 4 * (k : Int)) = T at *
      go_wp2
      go_region_with (go_at_call 45; refine (hmt.out _).mono ?_; rintro e' w2 ⟨rfl, hb2⟩; have qa : w2.cell? ⟨g, k * 4, none⟩ = some (.string T) := (hb2.cell (p := ⟨g, k * 4, none⟩) (by show g < wr.heap.size; omega)).trans q0)
      all_goals
        have hb3 : Below w.heap.size w w2 := by first | exact hbel.trans (hb2.mono hz) | exact hbel.drew.trans (hb2.mono hz) | exact hbel.drew.drew.trans (hb2.mono hz) | exact hbel.drew.drew.drew.trans (hb2.mono hz) | exact hbel.drew.drew.drew.drew.trans (hb2.mono hz)
        have r1 : w2.cell? ⟨g, k * 4 + 1, none⟩ = some (.int .i64 (c + 4 * (k : Int) + 1)) := (hb3.cell (p := ⟨g, k * 4 + 1, none⟩) hgz).trans q1.out
        have r2 : w2.cell? ⟨g, k * 4 + 2, none⟩ = some (.int .i64 (c + 4 * (k : Int) + 1 + 1)) := (hb3.cell (p := ⟨g, k * 4 + 2, none⟩) hgz).trans q2.out
        have r3 : w2.cell? ⟨g, k * 4 + 3, none⟩ = some (.int .i64 (c + 4 * (k : Int) + 1 + 1 + 1)) := (hb3.cell (p := ⟨g, k * 4 + 3, none⟩) hgz).trans q3.out
        have HB3 := hidd hb3
        clear hb2 hb3 q0 q1 q2 q3 qa
        go_wp2
        go_roundw
        case rel => exact ⟨k + 1, by omega, by go_num, by go_num, HB3.out⟩
        case measure => simp [intOf]; omega
    · have HK : Hid (k = n) := by show k = n; omega
      go_wp2
      go_ret
      rw [HK.out]
      exact ⟨rfl, hbel⟩
set_option maxHeartbeats 400000 in
theorem eqToks_zero (a1 a2 : Option Addr) (c1 c2 : Nat) (w : World) :
    Calls Tryz.prog 16 #[.slice a1 0 c1, .slice a2 0 c2] w fun e w' => e = .returned (.bool true) ∧ Below w.heap.size w w' := by
  go_enter Tryz.func16, Tryz.ntmps16
  go_wp2
  refine wp_loop_rounds 1 ?_
  rw [rounds_succ]
  go_wp2
  go_ret
  exact ⟨rfl, Below.refl _ _⟩
set_option maxHeartbeats 400000 in
theorem markToks_zero (a1 : Option Addr) (c1 : Nat) (c : Int) (w : World) :
    Calls Tryz.prog 19 #[.slice a1 0 c1, .int .i64 c] w fun e w' => e = .returned (.int .i64 c) ∧ w' = w := by
  go_enter Tryz.func19, Tryz.ntmps19
  go_wp2
  refine wp_loop_rounds 1 ?_
  rw [rounds_succ]
  go_wp2
  go_ret
  exact ⟨rfl, rfl⟩
set_option maxHeartbeats 400000 in
theorem heldToks_zero (a1 : Option Addr) (c1 : Nat) (c : Int) (w : World) :
    Calls Tryz.prog 20 #[.slice a1 0 c1, .int .i64 c] w fun e w' => e = .returned (.int .i64 c) ∧ w' = w := by
  go_enter Tryz.func20, Tryz.ntmps20
  go_wp2
  refine wp_loop_rounds 1 ?_
  rw [rounds_succ]
  go_wp2
  go_ret
  exact ⟨rfl, rfl⟩
theorem toks_at (l : List Tk) (k j : Nat) (hk : k < l.length) (hj : j < 4) : (toksCells l)[k * 4 + j]? = (tokCells l[k])[j]? := by
  induction l generalizing k with
  | nil => simp at hk
  | cons x t ih =>
    have e : toksCells (x :: t) = tokCells x ++ toksCells t := by simp [toksCells]
    have hx : (tokCells x).length = 4 := rfl
    rw [e]
    cases k with
    | zero => rw [List.getElem?_append_left (by omega)]; simp
    | succ k =>
      rw [List.getElem?_append_right (by omega), hx, show (k + 1) * 4 + j - 4 = k * 4 + j by omega, ih k (by simpa using hk)]
      simp
theorem own4_tok {w : World} {base e g cap : Nat} {l : List Tk} (h : w.ownsRow base e 4 (.slice (some ⟨g, 0, none⟩) l.length cap) l.length (toksCells l)) (t : Nat) (ht : t < l.length) :
    w.cell? ⟨g, t * 4, none⟩ = some (.string ⟨(l.getD t ([], 0, 0, 0)).1.toArray⟩) ∧ w.cell? ⟨g, t * 4 + 1, none⟩ = some (.int .i64 ((l.getD t ([], 0, 0, 0)).2.1 : Int)) ∧
    w.cell? ⟨g, t * 4 + 2, none⟩ = some (.int .i64 ((l.getD t ([], 0, 0, 0)).2.2.1 : Int)) ∧ w.cell? ⟨g, t * 4 + 3, none⟩ = some (.int .i64 ((l.getD t ([], 0, 0, 0)).2.2.2 : Int)) := by
  have e0 : l.getD t ([], 0, 0, 0) = l[t] := by simp [ht]
  rw [e0]
  refine ⟨?_, ?_, ?_, ?_⟩
  · rw [show t * 4 = t * 4 + 0 by omega, h.cellAt (t * 4 + 0) (by omega), toks_at l t 0 ht (by omega)]; rfl
  · rw [h.cellAt (t * 4 + 1) (by omega), toks_at l t 1 ht (by omega)]; rfl
  · rw [h.cellAt (t * 4 + 2) (by omega), toks_at l t 2 ht (by omega)]; rfl
  · rw [h.cellAt (t * 4 + 3) (by omega), toks_at l t 3 ht (by omega)]; rfl
theorem eqToks_own (b1 b2 : Nat) (v1 v2 : Value) (l : List Tk) (w : World) (hn : l.length ≤ 1048576)
    (h1 : w.ownsRow b1 63 4 v1 l.length (toksCells l)) (h2 : w.ownsRow b2 63 4 v2 l.length (toksCells l)) :
    Calls Tryz.prog 16 #[v1, v2] w fun e w' => e = .returned (.bool true) ∧ Below w.heap.size w w' := by
  rcases own4_cases h1 with ⟨rfl, hz⟩ | ⟨g1, c1, rfl, _, hg1⟩
  · rcases own4_cases h2 with ⟨rfl, _⟩ | ⟨g2, c2, rfl, _, _⟩
    · exact eqToks_zero _ _ _ _ w
    · rw [hz]; exact eqToks_zero _ _ _ _ w
  · rcases own4_cases h2 with ⟨rfl, hz⟩ | ⟨g2, c2, rfl, _, hg2⟩
    · rw [hz]; exact eqToks_zero _ _ _ _ w
    · exact eqToks_some g1 c1 g2 c2 l.length (fun t => ⟨(l.getD t ([], 0, 0, 0)).1.toArray⟩) (fun t => ((l.getD t ([], 0, 0, 0)).2.1 : Int)) (fun t => ((l.getD t ([], 0, 0, 0)).2.2.1 : Int)) (fun t => ((l.getD t ([], 0, 0, 0)).2.2.2 : Int)) w hn hg1 hg2 (own4_tok h1) (own4_tok h2)
theorem markToks_own (base n : Nat) (v : Value) (xs : List Value) (c : Int) (w : World) (hn : n ≤ 1048576) (h0 : 1 ≤ c) (h1 : c ≤ 1073741824) (hbz : base ≤ w.heap.size) (h : w.ownsRow base 63 4 v n xs) :
    Calls Tryz.prog 19 #[v, .int .i64 c] w fun e w' => e = .returned (.int .i64 (c + 4 * (n : Int))) ∧ w'.ownsRow base 63 4 v n (markTks c n) ∧ w.grownBy w' v.ownBlock := by
  rcases own4_cases h with ⟨rfl, rfl⟩ | ⟨g1, c1, rfl, _, _⟩
  · refine (markToks_zero _ _ c w).mono fun e w' h' => ?_
    obtain ⟨rfl, rfl⟩ := h'
    exact ⟨by simp, World.ownsRow_nil _ _ _ _, grown_refl _ _⟩
  · exact markToks_some base g1 n c1 xs c w hn h0 h1 hbz h
theorem heldToks_own (base n : Nat) (v : Value) (c : Int) (w : World) (hn : n ≤ 1048576) (h0 : 1 ≤ c) (h1 : c ≤ 1073741824) (h : w.ownsRow base 63 4 v n (markTks c n)) :
    Calls Tryz.prog 20 #[v, .int .i64 c] w fun e w' => e = .returned (.int .i64 (c + 4 * (n : Int))) ∧ Below w.heap.size w w' := by
  rcases own4_cases h with ⟨rfl, rfl⟩ | ⟨g1, c1, rfl, _, hg⟩
  · refine (heldToks_zero _ _ c w).mono fun e w' h' => ?_
    obtain ⟨rfl, rfl⟩ := h'
    exact ⟨by simp, Below.refl _ _⟩
  · exact heldToks_some base g1 n c1 c w hn h0 h1 hg h
end Go.Proofs.YtgoklapafidpkaaGreatDoor
