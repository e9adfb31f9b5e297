import Derived.Test.YtfdmahbjofolhaeDoorRunesC
import Derived.Test.YtfdmahbjofolhaeDoorFoldP
namespace Go.Proofs.YtfdmahbjofolhaeDoor
open Go
def foldR (s : ByteArray) : List Int := (runes s).map foldZ
def foldText (s : ByteArray) : List UInt8 := if decCode s = 0 then encs (foldR s) else []
theorem dec_ok (s : ByteArray) (h : decCode s = 0) : validB s = true ∧ s.size ≤ 65536 := by
  unfold decCode at h
  by_cases h1 : 65536 < s.size
  · rw [if_pos h1] at h; omega
  · rw [if_neg h1] at h
    by_cases h2 : validB s = true
    · exact ⟨h2, by omega⟩
    · rw [if_neg h2] at h; omega
theorem foldR_chr (s : ByteArray) (hv : validB s = true) : ∀ r ∈ foldR s, chr r = true := by
  intro r hr
  simp only [foldR, List.mem_map] at hr
  obtain ⟨x, hx, rfl⟩ := hr
  exact (foldZ_bd x (runes_chr s hv x hx)).2.2
end Go.Proofs.YtfdmahbjofolhaeDoor
