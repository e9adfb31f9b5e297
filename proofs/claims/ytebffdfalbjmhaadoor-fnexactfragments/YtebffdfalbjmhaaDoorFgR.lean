import Derived.Test.YtebffdfalbjmhaaDoorRunesC
import Derived.Lib.MapLaws
namespace Go.Proofs.YtebffdfalbjmhaaDoor
open Go
set_option linter.unusedVariables false
def blen (l : List Int) : Nat := (encs l).length
theorem blen_cons (r : Int) (t : List Int) : blen (r :: t) = (Lib.encodeRune r).length + blen t := by simp [blen, encs]
theorem blen_nil : blen [] = 0 := rfl
theorem blen_append (a b : List Int) : blen (a ++ b) = blen a + blen b := by simp [blen, encs]
/-! the text from a place on -/
theorem runesFrom_fuel (s : ByteArray) : ∀ f f' p, s.size ≤ p + f → s.size ≤ p + f' → runesFrom s f p = runesFrom s f' p
  | 0, f', p, h, _ => by rw [runesFrom_end s 0 p (by omega), runesFrom_end s f' p (by omega)]
  | f + 1, f', p, h, h' => by
    by_cases hp : p < s.size
    · have hw := width_le s p hp
      obtain ⟨g, rfl⟩ : ∃ g, f' = g + 1 := ⟨f' - 1, by omega⟩
      rw [runesFrom_step s f p hp, runesFrom_step s g p hp, runesFrom_fuel s f g _ (by omega) (by omega)]
    · rw [runesFrom_end s _ p hp, runesFrom_end s _ p hp]
def Rs (s : ByteArray) (p : Nat) : List Int := runesFrom s s.size p
theorem Rs_zero (s : ByteArray) : Rs s 0 = runes s := rfl
theorem Rs_end (s : ByteArray) (p : Nat) (h : ¬ p < s.size) : Rs s p = [] := runesFrom_end s _ p h
theorem Rs_step (s : ByteArray) (p : Nat) (h : p < s.size) : Rs s p = ((Utf8.decode s p).1 : Int) :: Rs s (p + (Utf8.decode s p).2) := by
  have hw := width_le s p h
  rw [Rs, runesFrom_fuel s s.size ((s.size - 1) + 1) p (by omega) (by omega), runesFrom_step s _ p h, runesFrom_fuel s (s.size - 1) s.size _ (by omega) (by omega)]
  rfl
theorem drop_ne (s : ByteArray) (p : Nat) (h : p < s.size) : s.data.toList.drop p ≠ [] := by
  intro e
  have := congrArg List.length e
  rw [List.length_drop, data_len] at this
  simp at this
  omega
theorem rune_bytes (s : ByteArray) (p : Nat) (h : p < s.size) (hg : ¬ bad s p) : Lib.encodeRune ((Utf8.decode s p).1 : Int) = (s.data.toList.drop p).take (Utf8.decode s p).2 := by
  have := Lib.encode_decode (s.data.toList.drop p) (drop_ne s p h) (by rw [Lib.decodeL_drop]; exact hg)
  rw [Lib.decodeL_drop] at this
  exact this
theorem rune_width (s : ByteArray) (p : Nat) (h : p < s.size) (hg : ¬ bad s p) : (Lib.encodeRune ((Utf8.decode s p).1 : Int)).length = (Utf8.decode s p).2 := by
  have hw := width_le s p h
  rw [rune_bytes s p h hg, List.length_take, List.length_drop, data_len]
  omega
theorem Rs_bytes (s : ByteArray) : ∀ (m p : Nat), s.size ≤ p + m → vFrom s p = true → encs (Rs s p) = s.data.toList.drop p
  | 0, p, hm, _ => by
    rw [Rs_end s p (by omega), List.drop_of_length_le (by rw [data_len]; omega)]; rfl
  | m + 1, p, hm, hv => by
    by_cases h : p < s.size
    · have hg := good_of s p h hv
      have hw := width_le s p h
      have ih := Rs_bytes s m (p + (Utf8.decode s p).2) (by omega) (by rw [vFrom_good s p h hg]; exact hv)
      rw [Rs_step s p h]
      have e : ∀ (r : Int) (t : List Int), encs (r :: t) = Lib.encodeRune r ++ encs t := fun r t => by simp [encs]
      rw [e, ih, rune_bytes s p h hg, ← List.drop_drop, List.take_append_drop]
    · rw [Rs_end s p h, List.drop_of_length_le (by rw [data_len]; omega)]; rfl
theorem Rs_text (s : ByteArray) (p : Nat) (hv : vFrom s p = true) : encs (Rs s p) = s.data.toList.drop p := Rs_bytes s s.size p (by omega) hv
theorem Rs_blen (s : ByteArray) (p : Nat) (hv : vFrom s p = true) : blen (Rs s p) = s.size - p := by
  rw [blen, Rs_text s p hv, List.length_drop, data_len]
theorem Rs_drop (s : ByteArray) : ∀ (k p : Nat), vFrom s p = true → Rs s (p + blen ((Rs s p).take k)) = (Rs s p).drop k ∧ vFrom s (p + blen ((Rs s p).take k)) = true
  | 0, p, hv => by simp [blen_nil, hv]
  | k + 1, p, hv => by
    by_cases h : p < s.size
    · have hg := good_of s p h hv
      have hv2 : vFrom s (p + (Utf8.decode s p).2) = true := by rw [vFrom_good s p h hg]; exact hv
      have ih := Rs_drop s k (p + (Utf8.decode s p).2) hv2
      rw [Rs_step s p h, List.take_succ_cons, blen_cons, rune_width s p h hg, List.drop_succ_cons, ← Nat.add_assoc]
      exact ih
    · rw [Rs_end s p h]; simp [blen_nil, Rs_end s p h, hv]
theorem Rs_take_bytes (s : ByteArray) (k p : Nat) (hv : vFrom s p = true) : encs ((Rs s p).take k) = (s.data.toList.drop p).take (blen ((Rs s p).take k)) := by
  have h : encs (Rs s p) = encs ((Rs s p).take k) ++ encs ((Rs s p).drop k) := by rw [← encs_append, List.take_append_drop]
  rw [← Rs_text s p hv, h, blen]
  simp
theorem Rs_take_le (s : ByteArray) (k p : Nat) (hp : p ≤ s.size) (hv : vFrom s p = true) : p + blen ((Rs s p).take k) ≤ s.size := by
  have h1 := Rs_blen s p hv
  have h2 : blen (Rs s p) = blen ((Rs s p).take k) + blen ((Rs s p).drop k) := by rw [← blen_append, List.take_append_drop]
  omega
theorem dec_okB (s : ByteArray) (h : decCode s = 0) : validB s = true ∧ s.size ≤ 65536 := by
  unfold decCode at h
  by_cases h1 : 65536 < s.size
  · rw [if_pos h1] at h; omega
  · rw [if_neg h1] at h
    by_cases h2 : validB s = true
    · exact ⟨h2, by omega⟩
    · rw [if_neg h2] at h; omega

theorem cut_text (s : ByteArray) (p k : Nat) (hp : p ≤ s.size) (hv : vFrom s p = true) : s.extract p (p + blen ((Rs s p).take k)) = ⟨(encs ((Rs s p).take k)).toArray⟩ := by
  have h1 := Rs_take_bytes s k p hv
  have h2 : (s.extract p (p + blen ((Rs s p).take k))).data.toList = encs ((Rs s p).take k) := by
    rw [Lib.extract_data, h1, Nat.add_sub_cancel_left]
  have h3 : (s.extract p (p + blen ((Rs s p).take k))).data = (encs ((Rs s p).take k)).toArray := by rw [← h2]
  cases hx : s.extract p (p + blen ((Rs s p).take k)) with
  | mk d => rw [hx] at h3; simp only at h3; rw [h3]

end Go.Proofs.YtebffdfalbjmhaaDoor
