import Derived.Test.YtebffdfalbjmhaaDoorProg
import Derived.Test.YtebffdfalbjmhaaDoorPlain
import Derived.WalkKit
import Derived.WalkLawsBesides
import Derived.BigQuiet
namespace Go.Proofs.YtebffdfalbjmhaaDoor
open Go Go.RowKit

set_option maxHeartbeats 400000 in
theorem charOK_any (r : Int) (w : World) : Calls Tryd.prog 27 #[.int .i64 r] w fun e w' => e = .returned (.bool (chr r)) ∧ w' = w := by
  have hc : chr r = decide (0 ≤ r ∧ r ≤ 1114111 ∧ (r < 55296 ∨ 57343 < r)) := rfl
  by_cases h1 : 0 ≤ r
  · by_cases h2 : r ≤ 1114111
    · by_cases h3 : r < 55296
      · have H : Hid (chr r = true) := by show _ = _; rw [chr_iff]; omega
        clear hc
        go_enter Tryd.func27, Tryd.ntmps27
        go_wp2
        go_ret
        rw [H.out]
        exact ⟨rfl, rfl⟩
      · by_cases h4 : 57343 < r
        · have H : Hid (chr r = true) := by show _ = _; rw [chr_iff]; omega
          clear hc
          go_enter Tryd.func27, Tryd.ntmps27
          go_wp2
          go_ret
          rw [H.out]
          exact ⟨rfl, rfl⟩
        · have H : Hid (chr r = false) := by show _ = _; rw [chr_not]; omega
          clear hc
          go_enter Tryd.func27, Tryd.ntmps27
          go_wp2
          go_ret
          rw [H.out]
          exact ⟨rfl, rfl⟩
    · have H : Hid (chr r = false) := by show _ = _; rw [chr_not]; omega
      clear hc
      go_enter Tryd.func27, Tryd.ntmps27
      go_wp2
      go_ret
      rw [H.out]
      exact ⟨rfl, rfl⟩
  · have H : Hid (chr r = false) := by show _ = _; rw [chr_not]; omega
    clear hc
    go_enter Tryd.func27, Tryd.ntmps27
    go_wp2
    go_ret
    rw [H.out]
    exact ⟨rfl, rfl⟩

set_option maxHeartbeats 400000 in
theorem bytes_one (r : Int) (w : World) (h0 : 0 ≤ r) (h1 : r < 128) :
    Calls Tryd.prog 19 #[.int .i64 r] w fun e w' => e = .returned (.slice (some ⟨w.heap.size, 0, none⟩) 1 1) ∧ w' = w.alloc (.cells #[.int .u8 r] 5) := by
  go_enter Tryd.func19, Tryd.ntmps19
  go_wp2
  go_ret
  exact ⟨rfl, rfl⟩
set_option maxHeartbeats 400000 in
theorem bytes_two (r : Int) (w : World) (h0 : 128 ≤ r) (h1 : r < 2048) :
    Calls Tryd.prog 19 #[.int .i64 r] w fun e w' => e = .returned (.slice (some ⟨w.heap.size, 0, none⟩) 2 2) ∧ w' = w.alloc (.cells #[.int .u8 (192 + r / 64), .int .u8 (128 + r % 64)] 5) := by
  go_enter Tryd.func19, Tryd.ntmps19
  go_wp2
  go_ret
  exact ⟨rfl, rfl⟩
set_option maxHeartbeats 400000 in
theorem bytes_three (r : Int) (w : World) (h0 : 2048 ≤ r) (h1 : r < 65536) :
    Calls Tryd.prog 19 #[.int .i64 r] w fun e w' => e = .returned (.slice (some ⟨w.heap.size, 0, none⟩) 3 3) ∧ w' = w.alloc (.cells #[.int .u8 (224 + r / 4096), .int .u8 (128 + r / 64 % 64), .int .u8 (128 + r % 64)] 5) := by
  go_enter Tryd.func19, Tryd.ntmps19
  go_wp2
  go_ret
  exact ⟨rfl, rfl⟩
set_option maxHeartbeats 400000 in
theorem bytes_four (r : Int) (w : World) (h0 : 65536 ≤ r) (h1 : r ≤ 1114111) :
    Calls Tryd.prog 19 #[.int .i64 r] w fun e w' => e = .returned (.slice (some ⟨w.heap.size, 0, none⟩) 4 4) ∧ w' = w.alloc (.cells #[.int .u8 (240 + r / 262144), .int .u8 (128 + r / 4096 % 64), .int .u8 (128 + r / 64 % 64), .int .u8 (128 + r % 64)] 5) := by
  go_enter Tryd.func19, Tryd.ntmps19
  go_wp2
  go_ret
  exact ⟨rfl, rfl⟩
theorem bytes_any (r : Int) (w : World) (h : chr r = true) :
    Calls Tryd.prog 19 #[.int .i64 r] w fun e w' => e = .returned (.slice (some ⟨w.heap.size, 0, none⟩) (Lib.runeCells r).length (Lib.runeCells r).length) ∧ w' = w.alloc (.cells (Lib.runeCells r).toArray 5) := by
  rw [chr_iff] at h
  unfold Lib.runeCells
  by_cases h1 : r < 128
  · rw [Lib.encodeRuneZ_one h.1 (by omega)]; exact bytes_one r w h.1 h1
  · by_cases h2 : r < 2048
    · rw [Lib.encodeRuneZ_two (by omega) (by omega)]; exact bytes_two r w (by omega) h2
    · by_cases h3 : r < 65536
      · rw [Lib.encodeRuneZ_three (by omega)]; exact bytes_three r w (by omega) h3
      · rw [Lib.encodeRuneZ_four (by omega) (by omega)]; exact bytes_four r w (by omega) (by omega)
end Go.Proofs.YtebffdfalbjmhaaDoor
