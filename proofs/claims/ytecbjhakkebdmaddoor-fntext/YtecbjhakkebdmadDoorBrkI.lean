import Derived.Test.YtecbjhakkebdmadDoorRunE
import Derived.Test.YtecbjhakkebdmadDoorTextCode
namespace Go.Proofs.YtecbjhakkebdmadDoor
open Go Go.RowKit
set_option linter.unusedVariables false
theorem Tryd.infoTok : (Tryd.prog.info? 34).map (fun i => (i.zero, i.size, i.bytes)) = some (some (.agg #[.string ⟨#[]⟩, .int .i64 0, .int .i64 0, .int .i64 0]), 4, 40) := by kernel_rfl

theorem dec_okB (s : ByteArray) (h : decCode s = 0) : validB s = true ∧ s.size ≤ 65536 := by
  unfold decCode at h
  by_cases h1 : 65536 < s.size
  · rw [if_pos h1] at h; omega
  · rw [if_neg h1] at h
    by_cases h2 : validB s = true
    · exact ⟨h2, by omega⟩
    · rw [if_neg h2] at h; omega

theorem clone_any (s : ByteArray) (w : World) (hs : s.size ≤ 65536) :
    Calls Tryd.prog 28 #[.string s] w fun e w' => e = .returned (.string s) ∧ Below w.heap.size w w' := by
  go_enter Tryd.func28, Tryd.ntmps28
  go_wp2_with fail
  refine (Tryd.stringslite_Clone s _ (by omega)).mono ?_
  rintro e w1 ⟨rfl, hb⟩
  go_wp2
  go_ret
  exact ⟨rfl, hb⟩

theorem cut_text (s : ByteArray) (p k : Nat) (hp : p ≤ s.size) (hv : vFrom s p = true) : s.extract p (p + blen ((Rs s p).take k)) = ⟨(encs ((Rs s p).take k)).toArray⟩ := by
  have h1 := Rs_take_bytes s k p hv
  have h2 : (s.extract p (p + blen ((Rs s p).take k))).data.toList = encs ((Rs s p).take k) := by
    rw [Lib.extract_data, h1, Nat.add_sub_cancel_left]
  have h3 : (s.extract p (p + blen ((Rs s p).take k))).data = (encs ((Rs s p).take k)).toArray := by rw [← h2]
  cases hx : s.extract p (p + blen ((Rs s p).take k)) with
  | mk d => rw [hx] at h3; simp only at h3; rw [h3]

/-- Where the program stands: at place p, behind words that end at e. -/
def BrkAt (s : ByteArray) (p e : Nat) (acc : List Tk) : Prop :=
  ∃ (q j f : Nat), (e ≤ p → q = p) ∧ (p < e → q = e) ∧ q = p + blen ((Rs s p).take j) ∧ (Rs s q).length ≤ f ∧ acc ++ toks f (Rs s q) q acc.length = allToks s

theorem take_cons_pos (r : Int) (t : List Int) (j : Nat) (h : 0 < blen ((r :: t).take j)) : ∃ i, j = i + 1 := by
  cases j with
  | zero => simp [blen_nil] at h
  | succ i => exact ⟨i, rfl⟩
theorem BrkAt_skip (s : ByteArray) (p e : Nat) (acc : List Tk) (hp : p < s.size) (hg : ¬ bad s p) (he : p < e) (h : BrkAt s p e acc) : BrkAt s (p + (Utf8.decode s p).2) e acc := by
  obtain ⟨q, j, f, h1, h2, h3, h4, h5⟩ := h
  obtain rfl := h2 he
  rw [Rs_step s p hp] at h3
  obtain ⟨i, rfl⟩ := take_cons_pos ((Utf8.decode s p).1 : Int) (Rs s (p + (Utf8.decode s p).2)) j (by omega)
  rw [List.take_succ_cons, blen_cons, rune_width s p hp hg] at h3
  refine ⟨q, i, f, fun hh => ?_, fun _ => rfl, by omega, h4, h5⟩
  have : 0 ≤ blen (List.take i (Rs s (p + (Utf8.decode s p).2))) := Nat.zero_le _
  omega
theorem BrkAt_none (s : ByteArray) (p e : Nat) (acc : List Tk) (hp : p < s.size) (hg : ¬ bad s p) (he : e ≤ p) (hi : innB ((Utf8.decode s p).1 : Int) = false) (h4 : clsZ ((Utf8.decode s p).1 : Int) ≠ 4) (h : BrkAt s p e acc) : BrkAt s (p + (Utf8.decode s p).2) e acc := by
  obtain ⟨q, j, f, h1, h2, h3, h5, h6⟩ := h
  obtain rfl := h1 he
  have hw := width_le s q hp
  have hx := h6
  rw [Rs_step s q hp] at h5 hx
  obtain ⟨g, rfl⟩ : ∃ g, f = g + 1 := ⟨f - 1, by simp at h5; omega⟩
  rw [toks_skip g _ _ _ _ (wordK_none _ _ hi h4)] at hx
  have eb : blen [((Utf8.decode s q).1 : Int)] = (Utf8.decode s q).2 := by rw [blen_cons, blen_nil, rune_width s q hp hg]; rfl
  rw [eb] at hx
  refine ⟨q + (Utf8.decode s q).2, 0, g, fun _ => rfl, fun hh => by omega, by simp [blen_nil], by simp at h5; omega, hx⟩
theorem BrkAt_word (s : ByteArray) (p e k : Nat) (acc : List Tk) (hp : p < s.size) (hv : vFrom s p = true) (he : e ≤ p) (hk : wordK (Rs s p) = k) (hk0 : ¬ k = 0) (h : BrkAt s p e acc) :
    (acc ++ [(encs ((Rs s p).take k), acc.length, p, p + blen ((Rs s p).take k))]).length ≤ (allToks s).length ∧
    BrkAt s (p + (Utf8.decode s p).2) (p + blen ((Rs s p).take k)) (acc ++ [(encs ((Rs s p).take k), acc.length, p, p + blen ((Rs s p).take k))]) := by
  obtain ⟨q, j, f, h1, h2, h3, h5, h6⟩ := h
  obtain rfl := h1 he
  have hg := good_of s q hp hv
  have hw := width_le s q hp
  have hd := (Rs_drop s k q hv).1
  have hx := h6
  have hst := Rs_step s q hp
  rw [hst] at h5 hx hk
  obtain ⟨g, rfl⟩ : ∃ g, f = g + 1 := ⟨f - 1, by simp at h5; omega⟩
  rw [toks_word g _ _ _ _ (by rw [hk]; exact hk0), hk] at hx
  rw [← hst] at hx h5
  rw [← hd] at hx
  have hx2 : (acc ++ [(encs ((Rs s q).take k), acc.length, q, q + blen ((Rs s q).take k))]) ++ toks g (Rs s (q + blen ((Rs s q).take k))) (q + blen ((Rs s q).take k)) (acc ++ [(encs ((Rs s q).take k), acc.length, q, q + blen ((Rs s q).take k))]).length = allToks s := by
    rw [← hx, List.length_append]
    simp
  refine ⟨by have := congrArg List.length hx2; rw [List.length_append] at this; omega, ?_⟩
  obtain ⟨i, rfl⟩ : ∃ i, k = i + 1 := ⟨k - 1, by omega⟩
  have hb : blen ((Rs s q).take (i + 1)) = (Utf8.decode s q).2 + blen ((Rs s (q + (Utf8.decode s q).2)).take i) := by
    rw [hst, List.take_succ_cons, blen_cons, rune_width s q hp hg]
  refine ⟨q + blen ((Rs s q).take (i + 1)), i, g, fun hh => by omega, fun _ => rfl, by omega, ?_, hx2⟩
  have hl := congrArg List.length hd
  rw [List.length_drop] at hl
  omega
theorem BrkAt_end (s : ByteArray) (p e : Nat) (acc : List Tk) (hp : ¬ p < s.size) (he : e ≤ s.size) (h : BrkAt s p e acc) : allToks s = acc := by
  obtain ⟨q, j, f, h1, h2, h3, h5, h6⟩ := h
  obtain rfl := h1 (by omega)
  rw [Rs_end s q hp, toks_nil, List.append_nil] at h6
  exact h6.symm
theorem BrkAt_start (s : ByteArray) : BrkAt s 0 0 [] := ⟨0, 0, (runes s).length, fun _ => rfl, fun h => by omega, by simp [blen_nil], by rw [Rs_zero]; exact Nat.le_refl _, by rw [Rs_zero]; rfl⟩

theorem tok_cell_new (w : World) (t : Tk) (e : TypeId) : ∀ j u, (tokCells t)[j]? = some u → (w.alloc (.cells (tokCells t).toArray e)).cell? ((⟨w.heap.size, 0, none⟩ : Addr).add j) = some u := by
  intro j u hj
  rw [add_head, World.cell?_alloc_at (hn := rfl)]
  simpa using hj
theorem tok_one (t : Tk) : ∀ u ∈ tokCells t, u.oneCell' = true := by
  intro u hu
  simp only [tokCells, List.mem_cons, List.mem_nil_iff, or_false] at hu
  rcases hu with rfl | rfl | rfl | rfl <;> rfl

theorem own4_iterAt {w : World} {base e n k p : Nat} {s : ByteArray} {v : Value} {xs : List Value} (h : w.ownsRow base e 4 v n xs) (hk : w.heap[k]? = some (.stringIter s p)) (p' : Nat) : (w.iterAt k s p').ownsRow base e 4 v n xs := by
  refine ⟨h.1, ?_⟩
  rcases h.2 with h' | ⟨g, cap, cur, h1, h2, h3, h4⟩
  · exact Or.inl h'
  · refine Or.inr ⟨g, cap, cur, h1, h2, ?_, h4⟩
    have hne : g ≠ k := by intro e; subst e; rw [hk] at h3; cases h3
    rw [Lib.iterAt_other w k g s p' hne]
    exact h3
theorem own4_ne_iter {w : World} {base e n k p : Nat} {s : ByteArray} {v : Value} {xs : List Value} (h : w.ownsRow base e 4 v n xs) (hk : w.heap[k]? = some (.stringIter s p)) : some k ≠ v.ownBlock := by
  intro hb
  rcases h.2 with ⟨rfl, _⟩ | ⟨g, cap, cur, rfl, h2, h3, h4⟩
  · cases hb
  · have e : k = g := Option.some.inj hb
    subst e
    rw [hk] at h3
    cases h3
theorem own4_below {w w' : World} {base e n : Nat} {v : Value} {xs : List Value} (h : w.ownsRow base e 4 v n xs) (hb : Below w.heap.size w w') : w'.ownsRow base e 4 v n xs := by
  refine ⟨h.1, ?_⟩
  rcases h.2 with h' | ⟨g, cap, cur, h1, h2, h3, h4⟩
  · exact Or.inl h'
  · exact Or.inr ⟨g, cap, cur, h1, h2, by rw [hb.block g (Array.getElem?_eq_some_iff.1 h3).1]; exact h3, h4⟩
theorem own4_cases {w : World} {base e n : Nat} {v : Value} {xs : List Value} (h : w.ownsRow base e 4 v n xs) :
    (v = .slice none 0 0 ∧ n = 0) ∨ ∃ g cap, v = .slice (some ⟨g, 0, none⟩) n cap ∧ base ≤ g ∧ g < w.heap.size := by
  rcases h.2 with ⟨h1, h2⟩ | ⟨g, cap, cur, h1, hb, hg, _⟩
  · exact Or.inl ⟨h1, h2⟩
  · exact Or.inr ⟨g, cap, h1, hb, (Array.getElem?_eq_some_iff.1 hg).1⟩
theorem own4_block {w : World} {base e n : Nat} {v : Value} {xs : List Value} (h : w.ownsRow base e 4 v n xs) : ∀ k, v.ownBlock = some k → base ≤ k := by
  intro k hk
  rcases own4_cases h with ⟨rfl, _⟩ | ⟨g, cap, rfl, hb, _⟩
  · cases hk
  · cases hk; exact hb
theorem own4_len {w : World} {base e n : Nat} {v : Value} {xs : List Value} (h : w.ownsRow base e 4 v n xs) : ∃ ao cap, v = .slice ao n cap := by
  rcases own4_cases h with ⟨rfl, rfl⟩ | ⟨g, cap, rfl, _, _⟩
  · exact ⟨_, _, rfl⟩
  · exact ⟨_, _, rfl⟩
end Go.Proofs.YtecbjhakkebdmadDoor
