import Derived.Test.YtecbjhakkebdmadDoorBrkI
import Derived.Test.YtecbjhakkebdmadDoorTextP
namespace Go.Proofs.YtecbjhakkebdmadDoor
open Go

def quietB (r : Int) : Bool := !innB r && !(clsZ r == 4)
def gapOK (s : ByteArray) (p q : Nat) : Prop := p ≤ q ∧ q ≤ s.size ∧ ∃ g : List Int, (∀ r ∈ g, chr r = true ∧ quietB r = true) ∧ s.extract p q = ⟨(encs g).toArray⟩
theorem bytes_ext (s : ByteArray) (l : List UInt8) (h : s.data.toList = l) : s = ⟨l.toArray⟩ := by
  cases s with
  | mk d => subst h; rfl
theorem extract_join (s : ByteArray) (p q q' : Nat) (h1 : p ≤ q) (h2 : q ≤ q') : (s.extract p q').data.toList = (s.extract p q).data.toList ++ (s.extract q q').data.toList := by
  rw [Lib.extract_data, Lib.extract_data, Lib.extract_data]
  have e : q' - p = (q - p) + (q' - q) := by omega
  rw [e, List.take_add, List.drop_drop]
  congr 3
  omega
theorem gapOK_nil (s : ByteArray) (p : Nat) (h : p ≤ s.size) : gapOK s p p := by
  refine ⟨Nat.le_refl _, h, [], by simp, bytes_ext _ _ ?_⟩
  rw [Lib.extract_data]
  simp [encs_nil]
theorem wordK_zero (r : Int) (t : List Int) (h : wordK (r :: t) = 0) : quietB r = true := by
  rw [wordK] at h
  by_cases h4 : clsZ r = 4
  · rw [if_pos h4] at h; omega
  · rw [if_neg h4] at h
    by_cases hi : innB r = true
    · rw [if_pos hi, runK_inn r t hi] at h; omega
    · have hi' : innB r = false := by simpa using hi
      have h4' : (clsZ r == 4) = false := by simpa using h4
      rw [quietB, hi', h4']; rfl
def Gaps (s : ByteArray) : Nat → Nat → List Tk → Prop
  | place, _, [] => gapOK s place s.size
  | place, k, t :: r => t.2.1 = k ∧ t.2.2.1 < t.2.2.2 ∧ t.2.2.2 ≤ s.size ∧ s.extract t.2.2.1 t.2.2.2 = ⟨t.1.toArray⟩ ∧ gapOK s place t.2.2.1 ∧ Gaps s t.2.2.2 (k + 1) r
theorem gaps_toks (s : ByteArray) : ∀ (f p place n : Nat), vFrom s p = true → p ≤ s.size → (Rs s p).length ≤ f → gapOK s place p → Gaps s place n (toks f (Rs s p) p n)
  | f, p, place, n, hv, hp, hf, hg => by
    by_cases hlt : p < s.size
    · have hgd := good_of s p hlt hv
      have hw := width_le s p hlt
      have hst := Rs_step s p hlt
      have hwd := rune_width s p hlt hgd
      have hch := rune_chr s p hgd
      obtain ⟨g, rfl⟩ : ∃ g, f = g + 1 := ⟨f - 1, by rw [hst] at hf; simp at hf; omega⟩
      by_cases hk : wordK (Rs s p) = 0
      · have e1 : p + blen ((Rs s p).take 1) = p + (Utf8.decode s p).2 := by rw [hst, List.take_succ_cons, blen_cons, hwd]; simp [blen_nil]
        have hcut := cut_text s p 1 hp hv
        rw [e1, hst, List.take_succ_cons, List.take_zero] at hcut
        have hk' := hk
        rw [hst] at hk'
        have ih := gaps_toks s g (p + (Utf8.decode s p).2) place n (by rw [vFrom_good s p hlt hgd]; exact hv) hw.2 (by rw [hst] at hf; simp at hf; omega) (by
          obtain ⟨g1, g2, l, g3, g4⟩ := hg
          refine ⟨by omega, hw.2, l ++ [((Utf8.decode s p).1 : Int)], ?_, bytes_ext _ _ ?_⟩
          · intro r hr
            rcases List.mem_append.1 hr with hr | hr
            · exact g3 r hr
            · rw [List.mem_singleton.1 hr]
              exact ⟨hch, wordK_zero _ _ hk'⟩
          · rw [extract_join s place p _ g1 (by omega), g4, hcut, encs_append])
        have eb : blen [((Utf8.decode s p).1 : Int)] = (Utf8.decode s p).2 := by rw [blen_cons, blen_nil, hwd]; rfl
        rw [hst, toks_skip g _ _ _ _ hk', eb]
        exact ih
      · have hd := Rs_drop s (wordK (Rs s p)) p hv
        have hle := Rs_take_le s (wordK (Rs s p)) p hp hv
        have hcut := cut_text s p (wordK (Rs s p)) hp hv
        have hpos : 0 < blen ((Rs s p).take (wordK (Rs s p))) := by
          obtain ⟨i, hi⟩ : ∃ i, wordK (Rs s p) = i + 1 := ⟨wordK (Rs s p) - 1, by omega⟩
          rw [hi, hst, List.take_succ_cons, blen_cons, hwd]
          omega
        have hl := congrArg List.length hd.1
        rw [List.length_drop] at hl
        have ih := gaps_toks s g (p + blen ((Rs s p).take (wordK (Rs s p)))) (p + blen ((Rs s p).take (wordK (Rs s p)))) (n + 1) hd.2 hle (by omega) (gapOK_nil s _ hle)
        rw [hd.1] at ih
        have ht := toks_word g ((Utf8.decode s p).1 : Int) (Rs s (p + (Utf8.decode s p).2)) p n (by rw [← hst]; exact hk)
        rw [← hst] at ht
        rw [ht]
        exact ⟨rfl, Nat.lt_add_of_pos_right hpos, hle, hcut, hg, ih⟩
    · have hz : p = s.size := by omega
      rw [Rs_end s p hlt, toks_nil]
      show gapOK s place s.size
      rw [← hz]
      exact hg
  termination_by f => f
theorem gaps_all (s : ByteArray) (h : decCode s = 0) : Gaps s 0 0 (allToks s) := by
  have hd := dec_ok s h
  have := gaps_toks s (runes s).length 0 0 0 (by rw [vFrom_zero]; exact hd.1) (Nat.zero_le _) (by rw [Rs_zero]; exact Nat.le_refl _) (gapOK_nil s 0 (Nat.zero_le _))
  rw [Rs_zero] at this
  exact this
/-- What gap asks of a text. -/
theorem gap_runes (s : ByteArray) (p q : Nat) (hs : s.size ≤ 65536) (h : gapOK s p q) : decCode (s.extract p q) = 0 ∧ ∀ r ∈ runes (s.extract p q), quietB r = true := by
  obtain ⟨h1, h2, g, h3, h4⟩ := h
  have hr := runes_encs g (fun r hr => (h3 r hr).1)
  have hsz : (s.extract p q).size ≤ s.size := by rw [ByteArray.size_extract]; omega
  rw [← h4] at hr
  refine ⟨?_, ?_⟩
  · rw [decCode, if_neg (by omega), if_pos hr.2]
  · rw [hr.1]
    exact fun r hx => (h3 r hx).2
end Go.Proofs.YtecbjhakkebdmadDoor
