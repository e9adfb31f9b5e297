import Derived.Test.YtibomnmgiimejadPkV1
namespace Go.Proofs.Ytibomnmgiimejad
open Go Go.RowKit
set_option linter.unusedVariables false

theorem readBlock_nil (n : Nat) : readBlock [] n = none := by
  simp [readBlock, rawBlock]
theorem readBlock_bad (bs : List UInt8) (n : Nat) (hpos : 0 < bs.length) (h : 62 < (bs.getD 0 0).toNat ∨ bs.length < 1 + sizeL n (bs.getD 0 0).toNat) : readBlock bs n = none := by
  cases bs with
  | nil => simp at hpos
  | cons c t =>
    simp only [List.getD_cons_zero, List.length_cons] at h
    rw [readBlock, rawBlock]
    rcases h with h | h
    · simp [h]
    · by_cases h6 : 62 < c.toNat
      · simp [h6]
      · have : t.length < sizeL n c.toNat := by omega
        simp [h6, this]

/-- The leading block of bytes, at every stretch. -/
theorem leadingBlock_any (v : Value) (n : Nat) (bs : List UInt8) (w : World) (hn : n ≤ 128)
    (h : (∃ ao cap, v = .slice ao 0 cap ∧ bs = []) ∨ ∃ b off cap, v = .slice (some ⟨b, off, none⟩) bs.length cap ∧ 0 < bs.length ∧ bs.length ≤ 1048576 ∧ bs.length ≤ cap ∧ BytesAt w b off bs) :
    Calls Try.prog 71 #[v, .int .i64 (n : Int)] w fun e w' => Below w.heap.size w w' ∧ ∃ X s, BlockOut bs n X s ∧ e = .returned (.tuple #[.agg (uArr X), .int .i64 s]) := by
  rcases h with ⟨ao, cap, rfl, rfl⟩ | ⟨b, off, cap, rfl, hpos, hle, hcap, hc⟩
  · refine (leadingBlock_bad _ n [] w hn (Or.inl ⟨ao, cap, rfl, rfl⟩)).mono ?_
    rintro e w' ⟨hb, rfl⟩
    exact ⟨hb, zeros, 0, ⟨zeros_length, Or.inl ⟨readBlock_nil n, rfl⟩⟩, rfl⟩
  · by_cases hbad : 62 < (bs.getD 0 0).toNat ∨ bs.length < 1 + sizeL n (bs.getD 0 0).toNat
    · refine (leadingBlock_bad _ n bs w hn (Or.inr ⟨b, off, cap, rfl, hpos, hle, hc, hbad⟩)).mono ?_
      rintro e w' ⟨hb, rfl⟩
      exact ⟨hb, zeros, 0, ⟨zeros_length, Or.inl ⟨readBlock_bad bs n hpos hbad, rfl⟩⟩, rfl⟩
    · have h1 : (bs.getD 0 0).toNat ≤ 62 := by omega
      have h2 : 1 + sizeL n (bs.getD 0 0).toNat ≤ bs.length := by omega
      by_cases hc1 : cap = 1
      · subst hc1
        exact leadingBlock_one b off n bs w hn hpos hle hcap hc h1 h2
      · exact leadingBlock_good b off cap n bs w hn hpos hle hcap hc h1 h2 hc1
end Go.Proofs.Ytibomnmgiimejad
