import Derived.Test.YtnhffhopdgnddaaGreatDoorAnalyzeJ06
import Derived.Test.YtnhffhopdgnddaaGreatDoorAnalyzeJ02
import Derived.BigQuiet
import Derived.Deep.QuietTactic
import Derived.Deep.RegionWith
namespace Go.Proofs.YtnhffhopdgnddaaGreatDoor
open Go Go.RowKit
set_option linter.unusedVariables false

set_option maxHeartbeats 1000000 in
theorem textCode_any (s : ByteArray) (w : World) (hs : s.size ≤ 1048576) (hT : Tabs w) :
    Calls Tryz.prog 60 #[.string s] w fun e w' => e = .returned (.int .i64 (decCode s)) ∧ Below w.heap.size w w' := by
  have HT := hidd hT
  clear hT
  by_cases hlong : 65536 < s.size
  · have HC : Hid (decCode s = 2) := by show _ = _; rw [decCode, if_pos hlong]
    have hlz : (65536 : Int) < (s.size : Int) := by omega
    go_enter Tryz.func60, Tryz.ntmps60
    go_wp2
    go_ret
    rw [HC.out]
    exact ⟨rfl, Below.refl _ _⟩
  · have hlz : ¬ (65536 : Int) < (s.size : Int) := by omega
    by_cases hv : validB s = true
    · have HC : Hid (decCode s = 0) := by show _ = _; rw [decCode, if_neg hlong, if_pos hv]
      go_enter Tryz.func60, Tryz.ntmps60
      go_wp2_with fail
      refine (valid_any s _ hs HT.out).mono ?_
      rintro e w1 ⟨rfl, hb1⟩
      go_wp2
      go_ret
      rw [HC.out]
      exact ⟨rfl, hb1⟩
    · have hv' : validB s = false := by simpa using hv
      have HC : Hid (decCode s = 3) := by show _ = _; rw [decCode, if_neg hlong, if_neg hv]
      clear hv
      go_enter Tryz.func60, Tryz.ntmps60
      go_wp2_with fail
      refine (valid_any s _ hs HT.out).mono ?_
      rintro e w1 ⟨rfl, hb1⟩
      go_wp2
      go_ret
      rw [HC.out]
      exact ⟨rfl, hb1⟩
end Go.Proofs.YtnhffhopdgnddaaGreatDoor

namespace Go.Proofs.YtnhffhopdgnddaaGreatDoor
open Go Go.RowKit
set_option linter.unusedVariables false
theorem Tryz.infoTok : (Tryz.prog.info? 35).map (fun i => (i.zero, i.size, i.bytes)) = some (some (.agg #[.string ⟨#[]⟩, .int .i64 0, .int .i64 0, .int .i64 0]), 4, 40) := by kernel_rfl

theorem dec_okB (s : ByteArray) (h : decCode s = 0) : validB s = true ∧ s.size ≤ 65536 := by
  unfold decCode at h
  by_cases h1 : 65536 < s.size
  · rw [if_pos h1] at h; omega
  · rw [if_neg h1] at h
    by_cases h2 : validB s = true
    · exact ⟨h2, by omega⟩
    · rw [if_neg h2] at h; omega

theorem cut_text (s : ByteArray) (p k : Nat) (hp : p ≤ s.size) (hv : vFrom s p = true) : s.extract p (p + blen ((Rs s p).take k)) = ⟨(encs ((Rs s p).take k)).toArray⟩ := by
  have h1 := Rs_take_bytes s k p hv
  have h2 : (s.extract p (p + blen ((Rs s p).take k))).data.toList = encs ((Rs s p).take k) := by
    rw [Lib.extract_data, h1, Nat.add_sub_cancel_left]
  have h3 : (s.extract p (p + blen ((Rs s p).take k))).data = (encs ((Rs s p).take k)).toArray := by rw [← h2]
  cases hx : s.extract p (p + blen ((Rs s p).take k)) with
  | mk d => rw [hx] at h3; simp only at h3; rw [h3]

/-- Where the program stands: at place p, behind words that end at e. -/
def BrkAt (s : ByteArray) (p e : Nat) (acc : List Tk) : Prop :=
  ∃ (q j f : Nat), (e ≤ p → q = p) ∧ (p < e → q = e) ∧ q = p + blen ((Rs s p).take j) ∧ (Rs s q).length ≤ f ∧ acc ++ toks f (Rs s q) q acc.length = allToks s

theorem take_cons_pos (r : Int) (t : List Int) (j : Nat) (h : 0 < blen ((r :: t).take j)) : ∃ i, j = i + 1 := by
  cases j with
  | zero => simp [blen_nil] at h
  | succ i => exact ⟨i, rfl⟩
theorem BrkAt_skip (s : ByteArray) (p e : Nat) (acc : List Tk) (hp : p < s.size) (hg : ¬ bad s p) (he : p < e) (h : BrkAt s p e acc) : BrkAt s (p + (Utf8.decode s p).2) e acc := by
  obtain ⟨q, j, f, h1, h2, h3, h4, h5⟩ := h
  obtain rfl := h2 he
  rw [Rs_step s p hp] at h3
  obtain ⟨i, rfl⟩ := take_cons_pos ((Utf8.decode s p).1 : Int) (Rs s (p + (Utf8.decode s p).2)) j (by omega)
  rw [List.take_succ_cons, blen_cons, rune_width s p hp hg] at h3
  refine ⟨q, i, f, fun hh => ?_, fun _ => rfl, by omega, h4, h5⟩
  have : 0 ≤ blen (List.take i (Rs s (p + (Utf8.decode s p).2))) := Nat.zero_le _
  omega
theorem BrkAt_none (s : ByteArray) (p e : Nat) (acc : List Tk) (hp : p < s.size) (hg : ¬ bad s p) (he : e ≤ p) (hi : innB ((Utf8.decode s p).1 : Int) = false) (h4 : clsZ ((Utf8.decode s p).1 : Int) ≠ 4) (h : BrkAt s p e acc) : BrkAt s (p + (Utf8.decode s p).2) e acc := by
  obtain ⟨q, j, f, h1, h2, h3, h5, h6⟩ := h
  obtain rfl := h1 he
  have hw := width_le s q hp
  have hx := h6
  rw [Rs_step s q hp] at h5 hx
  obtain ⟨g, rfl⟩ : ∃ g, f = g + 1 := ⟨f - 1, by simp at h5; omega⟩
  rw [toks_skip g _ _ _ _ (wordK_none _ _ hi h4)] at hx
  have eb : blen [((Utf8.decode s q).1 : Int)] = (Utf8.decode s q).2 := by rw [blen_cons, blen_nil, rune_width s q hp hg]; rfl
  rw [eb] at hx
  refine ⟨q + (Utf8.decode s q).2, 0, g, fun _ => rfl, fun hh => by omega, by simp [blen_nil], by simp at h5; omega, hx⟩
theorem BrkAt_word (s : ByteArray) (p e k : Nat) (acc : List Tk) (hp : p < s.size) (hv : vFrom s p = true) (he : e ≤ p) (hk : wordK (Rs s p) = k) (hk0 : ¬ k = 0) (h : BrkAt s p e acc) :
    (acc ++ [(encs ((Rs s p).take k), acc.length, p, p + blen ((Rs s p).take k))]).length ≤ (allToks s).length ∧
    BrkAt s (p + (Utf8.decode s p).2) (p + blen ((Rs s p).take k)) (acc ++ [(encs ((Rs s p).take k), acc.length, p, p + blen ((Rs s p).take k))]) := by
  obtain ⟨q, j, f, h1, h2, h3, h5, h6⟩ := h
  obtain rfl := h1 he
  have hg := good_of s q hp hv
  have hw := width_le s q hp
  have hd := (Rs_drop s k q hv).1
  have hx := h6
  have hst := Rs_step s q hp
  rw [hst] at h5 hx hk
  obtain ⟨g, rfl⟩ : ∃ g, f = g + 1 := ⟨f - 1, by simp at h5; omega⟩
  rw [toks_word g _ _ _ _ (by rw [hk]; exact hk0), hk] at hx
  rw [← hst] at hx h5
  rw [← hd] at hx
  have hx2 : (acc ++ [(encs ((Rs s q).take k), acc.length, q, q + blen ((Rs s q).take k))]) ++ toks g (Rs s (q + blen ((Rs s q).take k))) (q + blen ((Rs s q).take k)) (acc ++ [(encs ((Rs s q).take k), acc.length, q, q + blen ((Rs s q).take k))]).length = allToks s := by
    rw [← hx, List.length_append]
    simp
  refine ⟨by have := congrArg List.length hx2; rw [List.length_append] at this; omega, ?_⟩
  obtain ⟨i, rfl⟩ : ∃ i, k = i + 1 := ⟨k - 1, by omega⟩
  have hb : blen ((Rs s q).take (i + 1)) = (Utf8.decode s q).2 + blen ((Rs s (q + (Utf8.decode s q).2)).take i) := by
    rw [hst, List.take_succ_cons, blen_cons, rune_width s q hp hg]
  refine ⟨q + blen ((Rs s q).take (i + 1)), i, g, fun hh => by omega, fun _ => rfl, by omega, ?_, hx2⟩
  have hl := congrArg List.length hd
  rw [List.length_drop] at hl
  omega
theorem BrkAt_end (s : ByteArray) (p e : Nat) (acc : List Tk) (hp : ¬ p < s.size) (he : e ≤ s.size) (h : BrkAt s p e acc) : allToks s = acc := by
  obtain ⟨q, j, f, h1, h2, h3, h5, h6⟩ := h
  obtain rfl := h1 (by omega)
  rw [Rs_end s q hp, toks_nil, List.append_nil] at h6
  exact h6.symm
theorem BrkAt_start (s : ByteArray) : BrkAt s 0 0 [] := ⟨0, 0, (runes s).length, fun _ => rfl, fun h => by omega, by simp [blen_nil], by rw [Rs_zero]; exact Nat.le_refl _, by rw [Rs_zero]; rfl⟩

theorem tok_cell_new (w : World) (t : Tk) (e : TypeId) : ∀ j u, (tokCells t)[j]? = some u → (w.alloc (.cells (tokCells t).toArray e)).cell? ((⟨w.heap.size, 0, none⟩ : Addr).add j) = some u := by
  intro j u hj
  rw [add_head, World.cell?_alloc_at (hn := rfl)]
  simpa using hj
theorem tok_one (t : Tk) : ∀ u ∈ tokCells t, u.oneCell' = true := by
  intro u hu
  simp only [tokCells, List.mem_cons, List.mem_nil_iff, or_false] at hu
  rcases hu with rfl | rfl | rfl | rfl <;> rfl

theorem own4_iterAt {w : World} {base e n k p : Nat} {s : ByteArray} {v : Value} {xs : List Value} (h : w.ownsRow base e 4 v n xs) (hk : w.heap[k]? = some (.stringIter s p)) (p' : Nat) : (w.iterAt k s p').ownsRow base e 4 v n xs := by
  refine ⟨h.1, ?_⟩
  rcases h.2 with h' | ⟨g, cap, cur, h1, h2, h3, h4⟩
  · exact Or.inl h'
  · refine Or.inr ⟨g, cap, cur, h1, h2, ?_, h4⟩
    have hne : g ≠ k := by intro e; subst e; rw [hk] at h3; cases h3
    rw [Lib.iterAt_other w k g s p' hne]
    exact h3
theorem own4_ne_iter {w : World} {base e n k p : Nat} {s : ByteArray} {v : Value} {xs : List Value} (h : w.ownsRow base e 4 v n xs) (hk : w.heap[k]? = some (.stringIter s p)) : some k ≠ v.ownBlock := by
  intro hb
  rcases h.2 with ⟨rfl, _⟩ | ⟨g, cap, cur, rfl, h2, h3, h4⟩
  · cases hb
  · have e : k = g := Option.some.inj hb
    subst e
    rw [hk] at h3
    cases h3
theorem own4_below {w w' : World} {base e n : Nat} {v : Value} {xs : List Value} (h : w.ownsRow base e 4 v n xs) (hb : Below w.heap.size w w') : w'.ownsRow base e 4 v n xs := by
  refine ⟨h.1, ?_⟩
  rcases h.2 with h' | ⟨g, cap, cur, h1, h2, h3, h4⟩
  · exact Or.inl h'
  · exact Or.inr ⟨g, cap, cur, h1, h2, by rw [hb.block g (Array.getElem?_eq_some_iff.1 h3).1]; exact h3, h4⟩
theorem own4_cases {w : World} {base e n : Nat} {v : Value} {xs : List Value} (h : w.ownsRow base e 4 v n xs) :
    (v = .slice none 0 0 ∧ n = 0) ∨ ∃ g cap, v = .slice (some ⟨g, 0, none⟩) n cap ∧ base ≤ g ∧ g < w.heap.size := by
  rcases h.2 with ⟨h1, h2⟩ | ⟨g, cap, cur, h1, hb, hg, _⟩
  · exact Or.inl ⟨h1, h2⟩
  · exact Or.inr ⟨g, cap, h1, hb, (Array.getElem?_eq_some_iff.1 hg).1⟩
theorem own4_block {w : World} {base e n : Nat} {v : Value} {xs : List Value} (h : w.ownsRow base e 4 v n xs) : ∀ k, v.ownBlock = some k → base ≤ k := by
  intro k hk
  rcases own4_cases h with ⟨rfl, _⟩ | ⟨g, cap, rfl, hb, _⟩
  · cases hk
  · cases hk; exact hb
theorem own4_len {w : World} {base e n : Nat} {v : Value} {xs : List Value} (h : w.ownsRow base e 4 v n xs) : ∃ ao cap, v = .slice ao n cap := by
  rcases own4_cases h with ⟨rfl, rfl⟩ | ⟨g, cap, rfl, _, _⟩
  · exact ⟨_, _, rfl⟩
  · exact ⟨_, _, rfl⟩
end Go.Proofs.YtnhffhopdgnddaaGreatDoor

namespace Go.Proofs.YtnhffhopdgnddaaGreatDoor
open Go Go.RowKit
set_option linter.unusedVariables false

theorem grown_below {w w' : World} (h : Below w.heap.size w w') (g : Nat) : w.grownBy w' (some g) := ⟨h.os, h.tape, h.output, h.size, fun k hk _ => h.block k hk⟩

set_option maxHeartbeats 400000 in
theorem eqToken_same (t : ByteArray) (a b c : Int) (w : World) :
    Calls Tryz.prog 48 #[.agg #[.string t, .int .i64 a, .int .i64 b, .int .i64 c], .agg #[.string t, .int .i64 a, .int .i64 b, .int .i64 c]] w fun e w' => e = .returned (.bool true) ∧ Below w.heap.size w w' := by
  go_enter Tryz.func48, Tryz.ntmps48
  go_wp2
  go_ret
  exact ⟨rfl, ((Below.refl _ _).alloc (Nat.le_refl _) _).alloc (by simp) _⟩

set_option maxHeartbeats 1000000 in
theorem eqToks_some (g1 c1 g2 c2 n : Nat) (T : Nat → ByteArray) (A B C : Nat → Int) (w : World) (hn : n ≤ 1048576) (hg1 : g1 < w.heap.size) (hg2 : g2 < w.heap.size)
    (h1 : ∀ t, t < n → w.cell? ⟨g1, t * 4, none⟩ = some (.string (T t)) ∧ w.cell? ⟨g1, t * 4 + 1, none⟩ = some (.int .i64 (A t)) ∧ w.cell? ⟨g1, t * 4 + 2, none⟩ = some (.int .i64 (B t)) ∧ w.cell? ⟨g1, t * 4 + 3, none⟩ = some (.int .i64 (C t)))
    (h2 : ∀ t, t < n → w.cell? ⟨g2, t * 4, none⟩ = some (.string (T t)) ∧ w.cell? ⟨g2, t * 4 + 1, none⟩ = some (.int .i64 (A t)) ∧ w.cell? ⟨g2, t * 4 + 2, none⟩ = some (.int .i64 (B t)) ∧ w.cell? ⟨g2, t * 4 + 3, none⟩ = some (.int .i64 (C t))) :
    Calls Tryz.prog 14 #[.slice (some ⟨g1, 0, none⟩) n c1, .slice (some ⟨g2, 0, none⟩) n c2] w fun e w' => e = .returned (.bool true) ∧ Below w.heap.size w w' := by
  have H1 := hidd h1
  have H2 := hidd h2
  clear h1 h2
  go_enter Tryz.func14, Tryz.ntmps14
  go_wp2
  go_loopw [5] (fun i wr => ∃ k : Nat, k ≤ n ∧ i = .int .i64 k ∧ Below w.heap.size w wr) (fun i _ => n - (intOf i).toNat)
  case atStart => exact ⟨0, Nat.zero_le _, rfl, Below.refl _ _⟩
  case round =>
    obtain ⟨k, hk, rfl, hbel⟩ := hrel
    by_cases hlt : k < n
    · obtain ⟨p0, p1, p2, p3⟩ := H1.out k hlt
      obtain ⟨q0, q1, q2, q3⟩ := H2.out k hlt
      rw [← hbel.cell (p := ⟨g1, k * 4, none⟩) hg1] at p0
      rw [← hbel.cell (p := ⟨g1, k * 4 + 1, none⟩) hg1] at p1
      rw [← hbel.cell (p := ⟨g1, k * 4 + 2, none⟩) hg1] at p2
      rw [← hbel.cell (p := ⟨g1, k * 4 + 3, none⟩) hg1] at p3
      rw [← hbel.cell (p := ⟨g2, k * 4, none⟩) hg2] at q0
      rw [← hbel.cell (p := ⟨g2, k * 4 + 1, none⟩) hg2] at q1
      rw [← hbel.cell (p := ⟨g2, k * 4 + 2, none⟩) hg2] at q2
      rw [← hbel.cell (p := ⟨g2, k * 4 + 3, none⟩) hg2] at q3
      have hz := hbel.size
      go_wp2
      go_region_with (go_at_call 48; refine (eqToken_same _ _ _ _ _).mono ?_; rintro e' w2 ⟨rfl, hb2⟩)
      all_goals
        have hb3 : Below w.heap.size w w2 := by first | exact hbel.trans (hb2.mono hz) | exact hbel.drew.trans (hb2.mono hz) | exact hbel.drew.drew.trans (hb2.mono hz) | exact hbel.drew.drew.drew.trans (hb2.mono hz) | exact hbel.drew.drew.drew.drew.trans (hb2.mono hz)
        clear hb2 p0 p1 p2 p3 q0 q1 q2 q3
        go_wp2
        go_roundw
        case rel => exact ⟨k + 1, by omega, by go_num, hb3⟩
        case measure => simp [intOf]; omega
    · go_wp2
      go_ret
      exact ⟨rfl, hbel⟩

/-- What a marked list of words holds, from the number c on. -/
def markTk (c : Int) (i : Nat) : List Value := [.string (mkText (c + 4 * (i : Int))), .int .i64 (c + 4 * (i : Int) + 1), .int .i64 (c + 4 * (i : Int) + 1 + 1), .int .i64 (c + 4 * (i : Int) + 1 + 1 + 1)]
def markTks (c : Int) (n : Nat) : List Value := (List.range n).flatMap (markTk c)
theorem markTks_succ (c : Int) (n : Nat) : markTks c (n + 1) = markTks c n ++ markTk c n := by simp [markTks, List.range_succ]
theorem markTks_len (c : Int) (n : Nat) : (markTks c n).length = n * 4 := by
  induction n with
  | zero => rfl
  | succ n ih => rw [markTks_succ, List.length_append, ih]; simp [markTk]; omega
theorem marked_at (c : Int) (n k j : Nat) (hk : k < n) (hj : j < 4) : (markTks c n)[k * 4 + j]? = (markTk c k)[j]? := by
  induction n with
  | zero => omega
  | succ n ih =>
    rw [markTks_succ]
    by_cases h : k < n
    · rw [List.getElem?_append_left (by rw [markTks_len]; omega), ih h]
    · obtain rfl : k = n := by omega
      rw [List.getElem?_append_right (by rw [markTks_len]; omega), markTks_len]
      congr 1
      omega
theorem marks4_set (c : Int) (k : Nat) (xs : List Value) (n : Nat) (hl : xs.length = n * 4) (hk : k < n) :
    ((((markTks c k ++ xs.drop (k * 4)).set (k * 4) (.string (mkText (c + 4 * (k : Int))))).set (k * 4 + 1) (.int .i64 (c + 4 * (k : Int) + 1))).set (k * 4 + 2) (.int .i64 (c + 4 * (k : Int) + 1 + 1))).set (k * 4 + 3) (.int .i64 (c + 4 * (k : Int) + 1 + 1 + 1)) = markTks c (k + 1) ++ xs.drop ((k + 1) * 4) := by
  have e := markTks_len c k
  obtain ⟨a, b, d, f, r, hx⟩ : ∃ a b d f r, xs.drop (k * 4) = a :: b :: d :: f :: r := by
    have hlen : 4 ≤ (xs.drop (k * 4)).length := by rw [List.length_drop]; omega
    match hm : xs.drop (k * 4), hlen with
    | a :: b :: d :: f :: r, _ => exact ⟨a, b, d, f, r, rfl⟩
    | [], h => simp at h
    | [_], h => simp at h
    | [_, _], h => simp at h
    | [_, _, _], h => simp at h
  have hr : xs.drop ((k + 1) * 4) = r := by
    have : xs.drop ((k + 1) * 4) = (xs.drop (k * 4)).drop 4 := by rw [List.drop_drop]; congr 1; omega
    rw [this, hx]; rfl
  rw [hx, hr, markTks_succ]
  rw [List.set_append_right _ _ (by omega), List.set_append_right _ _ (by omega), List.set_append_right _ _ (by omega), List.set_append_right _ _ (by omega)]
  rw [e]
  simp [markTk]

set_option maxHeartbeats 2000000 in
theorem markToks_some (base g n cap : Nat) (xs : List Value) (c : Int) (w : World) (hn : n ≤ 1048576) (h0 : 1 ≤ c) (h1 : c ≤ 1073741824) (hbz : base ≤ w.heap.size) (hown : w.ownsRow base 35 4 (.slice (some ⟨g, 0, none⟩) n cap) n xs) :
    Calls Tryz.prog 17 #[.slice (some ⟨g, 0, none⟩) n cap, .int .i64 c] w fun e w' => e = .returned (.int .i64 (c + 4 * (n : Int))) ∧
      w'.ownsRow base 35 4 (.slice (some ⟨g, 0, none⟩) n cap) n (markTks c n) ∧ w.grownBy w' (some g) := by
  have hl : xs.length = n * 4 := hown.1
  have HO := hidd hown
  clear hown
  go_enter Tryz.func17, Tryz.ntmps17
  go_wp2
  go_loopw [1, 5] (fun cv i wr => ∃ k : Nat, k ≤ n ∧ i = .int .i64 k ∧ cv = .int .i64 (c + 4 * (k : Int)) ∧ wr.ownsRow base 35 4 (.slice (some ⟨g, 0, none⟩) n cap) n (markTks c k ++ xs.drop (k * 4)) ∧ w.grownBy wr (some g)) (fun _ i _ => n - (intOf i).toNat)
  case atStart => exact ⟨0, Nat.zero_le _, rfl, by simp, by simpa [markTks] using HO.out, grown_refl _ _⟩
  case round =>
    obtain ⟨k, hk, rfl, rfl, hown, hgr⟩ := hrel
    by_cases hlt : k < n
    · go_wp2_with fail
      refine (markText_any _ _ (by omega) (by omega)).mono ?_
      rintro e' w2 ⟨rfl, hb2⟩
      have hown2 := own4_below hown hb2
      have hgr2 := grown_trans hgr (grown_below hb2 g)
      clear hown hgr hb2
      have hlen : (markTks c k ++ xs.drop (k * 4)).length = n * 4 := hown2.1
      have f0 := hown2.frozenAt (k * 4)
      have f1 := hown2.frozenAt (k * 4 + 1)
      have f2 := hown2.frozenAt (k * 4 + 2)
      have f3 := hown2.frozenAt (k * 4 + 3)
      have cex : ∀ j, j < n * 4 → ∃ u, w2.cell? ⟨g, j, none⟩ = some u := fun j hj => by rw [hown2.cellAt j hj]; exact ⟨_, List.getElem?_eq_getElem (by rw [hlen]; exact hj)⟩
      obtain ⟨u0, q0⟩ := cex (k * 4) (by omega)
      obtain ⟨u1, q1⟩ := cex (k * 4 + 1) (by omega)
      obtain ⟨u2, q2⟩ := cex (k * 4 + 2) (by omega)
      obtain ⟨u3, q3⟩ := cex (k * 4 + 3) (by omega)
      have HO2 := hidd hown2
      have HG2 := hidd hgr2
      clear hown2 hgr2 cex hlen
      generalize hT : mkText (c + 4 * (k : Int)) = T
      have HT := hidd hT
      clear hT
      go_wp2
      go_roundw
      case rel =>
        have s0 := HO2.out.stored (k * 4) (.string T)
        have s1 := s0.1.stored (k * 4 + 1) (.int .i64 (c + 4 * (k : Int) + 1))
        have s2 := s1.1.stored (k * 4 + 2) (.int .i64 (c + 4 * (k : Int) + 1 + 1))
        have s3 := s2.1.stored (k * 4 + 3) (.int .i64 (c + 4 * (k : Int) + 1 + 1 + 1))
        refine ⟨k + 1, by omega, by go_num, by go_num, ?_, grown_trans HG2.out (grown_trans s0.2 (grown_trans s1.2 (grown_trans s2.2 s3.2)))⟩
        have h := s3.1
        rw [← HT.out, marks4_set c k xs n hl hlt] at h
        rw [← HT.out]
        exact h
      case measure => simp [intOf]; omega
    · have HK : Hid (k = n) := by show k = n; omega
      go_wp2
      go_ret
      obtain rfl := HK.out
      refine ⟨rfl, ?_, hgr⟩
      rw [List.drop_of_length_le (by omega), List.append_nil] at hown
      exact hown

set_option maxHeartbeats 2000000 in
theorem heldToks_some (base g n cap : Nat) (c : Int) (w : World) (hn : n ≤ 1048576) (h0 : 1 ≤ c) (h1 : c ≤ 1073741824) (hgz : g < w.heap.size) (hown : w.ownsRow base 35 4 (.slice (some ⟨g, 0, none⟩) n cap) n (markTks c n)) :
    Calls Tryz.prog 18 #[.slice (some ⟨g, 0, none⟩) n cap, .int .i64 c] w fun e w' => e = .returned (.int .i64 (c + 4 * (n : Int))) ∧ Below w.heap.size w w' := by
  have hc : Hid (∀ k j, k < n → j < 4 → w.cell? ⟨g, k * 4 + j, none⟩ = (markTk c k)[j]?) := fun k j hk hj => by rw [hown.cellAt (k * 4 + j) (by omega)]; exact marked_at c n k j hk hj
  clear hown
  go_enter Tryz.func18, Tryz.ntmps18
  go_wp2
  go_loopw [1, 5] (fun cv i wr => ∃ k : Nat, k ≤ n ∧ i = .int .i64 k ∧ cv = .int .i64 (c + 4 * (k : Int)) ∧ Below w.heap.size w wr) (fun _ i _ => n - (intOf i).toNat)
  case atStart => exact ⟨0, Nat.zero_le _, rfl, by simp, Below.refl _ _⟩
  case round =>
    obtain ⟨k, hk, rfl, rfl, hbel⟩ := hrel
    by_cases hlt : k < n
    · have q0 : wr.cell? ⟨g, k * 4, none⟩ = some (.string (mkText (c + 4 * (k : Int)))) := (hbel.cell (p := ⟨g, k * 4, none⟩) hgz).trans (hc.out k 0 hlt (by omega))
      have q1 := hidd (hc.out k 1 hlt (by omega))
      have q2 := hidd (hc.out k 2 hlt (by omega))
      have q3 := hidd (hc.out k 3 hlt (by omega))
      have hz := hbel.size
      have hmt := hidd (fun wx => markText_any (c + 4 * (k : Int)) wx (by omega) (by omega))
      generalize mkText (c + 4 * (k : Int)) = T at *
      go_wp2
      go_region_with (go_at_call 53; refine (hmt.out _).mono ?_; rintro e' w2 ⟨rfl, hb2⟩; have qa : w2.cell? ⟨g, k * 4, none⟩ = some (.string T) := (hb2.cell (p := ⟨g, k * 4, none⟩) (by show g < wr.heap.size; omega)).trans q0)
      all_goals
        have hb3 : Below w.heap.size w w2 := by first | exact hbel.trans (hb2.mono hz) | exact hbel.drew.trans (hb2.mono hz) | exact hbel.drew.drew.trans (hb2.mono hz) | exact hbel.drew.drew.drew.trans (hb2.mono hz) | exact hbel.drew.drew.drew.drew.trans (hb2.mono hz)
        have r1 : w2.cell? ⟨g, k * 4 + 1, none⟩ = some (.int .i64 (c + 4 * (k : Int) + 1)) := (hb3.cell (p := ⟨g, k * 4 + 1, none⟩) hgz).trans q1.out
        have r2 : w2.cell? ⟨g, k * 4 + 2, none⟩ = some (.int .i64 (c + 4 * (k : Int) + 1 + 1)) := (hb3.cell (p := ⟨g, k * 4 + 2, none⟩) hgz).trans q2.out
        have r3 : w2.cell? ⟨g, k * 4 + 3, none⟩ = some (.int .i64 (c + 4 * (k : Int) + 1 + 1 + 1)) := (hb3.cell (p := ⟨g, k * 4 + 3, none⟩) hgz).trans q3.out
        have HB3 := hidd hb3
        clear hb2 hb3 q0 q1 q2 q3 qa
        go_wp2
        go_roundw
        case rel => exact ⟨k + 1, by omega, by go_num, by go_num, HB3.out⟩
        case measure => simp [intOf]; omega
    · have HK : Hid (k = n) := by show k = n; omega
      go_wp2
      go_ret
      rw [HK.out]
      exact ⟨rfl, hbel⟩

set_option maxHeartbeats 400000 in
theorem eqToks_zero (a1 a2 : Option Addr) (c1 c2 : Nat) (w : World) :
    Calls Tryz.prog 14 #[.slice a1 0 c1, .slice a2 0 c2] w fun e w' => e = .returned (.bool true) ∧ Below w.heap.size w w' := by
  go_enter Tryz.func14, Tryz.ntmps14
  go_wp2
  refine wp_loop_rounds 1 ?_
  rw [rounds_succ]
  go_wp2
  go_ret
  exact ⟨rfl, Below.refl _ _⟩
set_option maxHeartbeats 400000 in
theorem markToks_zero (a1 : Option Addr) (c1 : Nat) (c : Int) (w : World) :
    Calls Tryz.prog 17 #[.slice a1 0 c1, .int .i64 c] w fun e w' => e = .returned (.int .i64 c) ∧ w' = w := by
  go_enter Tryz.func17, Tryz.ntmps17
  go_wp2
  refine wp_loop_rounds 1 ?_
  rw [rounds_succ]
  go_wp2
  go_ret
  exact ⟨rfl, rfl⟩
set_option maxHeartbeats 400000 in
theorem heldToks_zero (a1 : Option Addr) (c1 : Nat) (c : Int) (w : World) :
    Calls Tryz.prog 18 #[.slice a1 0 c1, .int .i64 c] w fun e w' => e = .returned (.int .i64 c) ∧ w' = w := by
  go_enter Tryz.func18, Tryz.ntmps18
  go_wp2
  refine wp_loop_rounds 1 ?_
  rw [rounds_succ]
  go_wp2
  go_ret
  exact ⟨rfl, rfl⟩

theorem toks_at (l : List Tk) (k j : Nat) (hk : k < l.length) (hj : j < 4) : (toksCells l)[k * 4 + j]? = (tokCells l[k])[j]? := by
  induction l generalizing k with
  | nil => simp at hk
  | cons x t ih =>
    have e : toksCells (x :: t) = tokCells x ++ toksCells t := by simp [toksCells]
    have hx : (tokCells x).length = 4 := rfl
    rw [e]
    cases k with
    | zero => rw [List.getElem?_append_left (by omega)]; simp
    | succ k =>
      rw [List.getElem?_append_right (by omega), hx, show (k + 1) * 4 + j - 4 = k * 4 + j by omega, ih k (by simpa using hk)]
      simp
theorem own4_tok {w : World} {base e g cap : Nat} {l : List Tk} (h : w.ownsRow base e 4 (.slice (some ⟨g, 0, none⟩) l.length cap) l.length (toksCells l)) (t : Nat) (ht : t < l.length) :
    w.cell? ⟨g, t * 4, none⟩ = some (.string ⟨(l.getD t ([], 0, 0, 0)).1.toArray⟩) ∧ w.cell? ⟨g, t * 4 + 1, none⟩ = some (.int .i64 ((l.getD t ([], 0, 0, 0)).2.1 : Int)) ∧
    w.cell? ⟨g, t * 4 + 2, none⟩ = some (.int .i64 ((l.getD t ([], 0, 0, 0)).2.2.1 : Int)) ∧ w.cell? ⟨g, t * 4 + 3, none⟩ = some (.int .i64 ((l.getD t ([], 0, 0, 0)).2.2.2 : Int)) := by
  have e0 : l.getD t ([], 0, 0, 0) = l[t] := by simp [ht]
  rw [e0]
  refine ⟨?_, ?_, ?_, ?_⟩
  · rw [show t * 4 = t * 4 + 0 by omega, h.cellAt (t * 4 + 0) (by omega), toks_at l t 0 ht (by omega)]; rfl
  · rw [h.cellAt (t * 4 + 1) (by omega), toks_at l t 1 ht (by omega)]; rfl
  · rw [h.cellAt (t * 4 + 2) (by omega), toks_at l t 2 ht (by omega)]; rfl
  · rw [h.cellAt (t * 4 + 3) (by omega), toks_at l t 3 ht (by omega)]; rfl

theorem eqToks_own (b1 b2 : Nat) (v1 v2 : Value) (l : List Tk) (w : World) (hn : l.length ≤ 1048576)
    (h1 : w.ownsRow b1 35 4 v1 l.length (toksCells l)) (h2 : w.ownsRow b2 35 4 v2 l.length (toksCells l)) :
    Calls Tryz.prog 14 #[v1, v2] w fun e w' => e = .returned (.bool true) ∧ Below w.heap.size w w' := by
  rcases own4_cases h1 with ⟨rfl, hz⟩ | ⟨g1, c1, rfl, _, hg1⟩
  · rcases own4_cases h2 with ⟨rfl, _⟩ | ⟨g2, c2, rfl, _, _⟩
    · exact eqToks_zero _ _ _ _ w
    · rw [hz]; exact eqToks_zero _ _ _ _ w
  · rcases own4_cases h2 with ⟨rfl, hz⟩ | ⟨g2, c2, rfl, _, hg2⟩
    · rw [hz]; exact eqToks_zero _ _ _ _ w
    · exact eqToks_some g1 c1 g2 c2 l.length (fun t => ⟨(l.getD t ([], 0, 0, 0)).1.toArray⟩) (fun t => ((l.getD t ([], 0, 0, 0)).2.1 : Int)) (fun t => ((l.getD t ([], 0, 0, 0)).2.2.1 : Int)) (fun t => ((l.getD t ([], 0, 0, 0)).2.2.2 : Int)) w hn hg1 hg2 (own4_tok h1) (own4_tok h2)

theorem markToks_own (base n : Nat) (v : Value) (xs : List Value) (c : Int) (w : World) (hn : n ≤ 1048576) (h0 : 1 ≤ c) (h1 : c ≤ 1073741824) (hbz : base ≤ w.heap.size) (h : w.ownsRow base 35 4 v n xs) :
    Calls Tryz.prog 17 #[v, .int .i64 c] w fun e w' => e = .returned (.int .i64 (c + 4 * (n : Int))) ∧ w'.ownsRow base 35 4 v n (markTks c n) ∧ w.grownBy w' v.ownBlock := by
  rcases own4_cases h with ⟨rfl, rfl⟩ | ⟨g1, c1, rfl, _, _⟩
  · refine (markToks_zero _ _ c w).mono fun e w' h' => ?_
    obtain ⟨rfl, rfl⟩ := h'
    exact ⟨by simp, World.ownsRow_nil _ _ _ _, grown_refl _ _⟩
  · exact markToks_some base g1 n c1 xs c w hn h0 h1 hbz h

theorem heldToks_own (base n : Nat) (v : Value) (c : Int) (w : World) (hn : n ≤ 1048576) (h0 : 1 ≤ c) (h1 : c ≤ 1073741824) (h : w.ownsRow base 35 4 v n (markTks c n)) :
    Calls Tryz.prog 18 #[v, .int .i64 c] w fun e w' => e = .returned (.int .i64 (c + 4 * (n : Int))) ∧ Below w.heap.size w w' := by
  rcases own4_cases h with ⟨rfl, rfl⟩ | ⟨g1, c1, rfl, _, hg⟩
  · refine (heldToks_zero _ _ c w).mono fun e w' h' => ?_
    obtain ⟨rfl, rfl⟩ := h'
    exact ⟨by simp, Below.refl _ _⟩
  · exact heldToks_some base g1 n c1 c w hn h0 h1 hg h
theorem own4_apart {w1 w2 : World} {base e n : Nat} {v0 v1 : Value} {xs ys : List Value} (h0 : w1.ownsRow base e 4 v0 n xs) (h1 : w2.ownsRow w1.heap.size e 4 v1 n ys) : v0.ownBlock = none ∨ v0.ownBlock ≠ v1.ownBlock := by
  rcases own4_cases h0 with ⟨rfl, _⟩ | ⟨g0, c0, rfl, _, hl⟩
  · exact Or.inl rfl
  · rcases own4_cases h1 with ⟨rfl, _⟩ | ⟨g1, c1, rfl, hb, _⟩
    · exact Or.inr (by simp [Value.ownBlock])
    · refine Or.inr ?_
      simp [Value.ownBlock]
      omega
end Go.Proofs.YtnhffhopdgnddaaGreatDoor
