import Derived.Test.YtpdiaddgialanaaGreatDoorRunes
namespace Go.Proofs.YtpdiaddgialanaaGreatDoor
open Go
set_option maxRecDepth 100000 in
set_option maxHeartbeats 1000000 in
theorem decodeN_chr (n b0 b1 b2 b3 : Nat) (h : ¬ Lib.decodeN n b0 b1 b2 b3 = (65533, 1)) : chr ((Lib.decodeN n b0 b1 b2 b3).1 : Int) = true := by
  revert h
  unfold Lib.decodeN
  repeat' split
  all_goals intro h
  all_goals first | (exact absurd rfl h) | (rw [chr_iff]; simp only; omega)
theorem rune_chr (s : ByteArray) (p : Nat) (h : ¬ bad s p) : chr ((Utf8.decode s p).1 : Int) = true := by
  rw [bad_iff, decode_bytes] at h
  rw [decode_bytes]
  exact decodeN_chr _ _ _ _ _ h
theorem good_of (s : ByteArray) (p : Nat) (h : p < s.size) (hv : vFrom s p = true) : ¬ bad s p := by
  intro hb
  rw [vFrom_bad s p h hb] at hv
  cases hv
theorem runesFrom_chr (s : ByteArray) : ∀ f p, vFrom s p = true → ∀ r ∈ runesFrom s f p, chr r = true
  | 0, _, _, r, hr => by simp [runesFrom] at hr
  | f + 1, p, hv, r, hr => by
    by_cases h : p < s.size
    · have hg := good_of s p h hv
      rw [runesFrom_step s f p h] at hr
      rcases List.mem_cons.1 hr with rfl | hr
      · exact rune_chr s p hg
      · exact runesFrom_chr s f _ (by rw [vFrom_good s p h hg]; exact hv) r hr
    · rw [runesFrom_end s _ p h] at hr; cases hr
theorem runes_chr (s : ByteArray) (hv : validB s = true) : ∀ r ∈ runes s, chr r = true := runesFrom_chr s _ _ (by rw [vFrom_zero]; exact hv)
end Go.Proofs.YtpdiaddgialanaaGreatDoor
