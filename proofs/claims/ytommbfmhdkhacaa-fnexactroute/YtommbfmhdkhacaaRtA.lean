import Derived.Test.YtommbfmhdkhacaaSumA
import Derived.Test.YtommbfmhdkhacaaWithin
import Derived.Laws.IdiomStrings
import Derived.BigRegion
import Derived.Below
namespace Go.Proofs.Ytommbfmhdkhacaa
open Go Go.RowKit
set_option linter.unusedVariables false

/-! Route: which shard an id goes to. -/
def routeZ (t : ByteArray) (n : Int) : Int := if 1 ≤ n ∧ n ≤ 8 ∧ t.size ≤ 65536 then ((sumL t.data.toList : Nat) : Int) % n else -1

theorem made_text (w : World) (t : ByteArray) (cap : Nat) (mark : Nat × Nat) : BytesAt (w.drew.alloc (.cells (bytesRow t cap) 5 mark)) w.heap.size 0 t.data.toList := by
  intro j hj
  have hcell : (w.drew.alloc (.cells (bytesRow t cap) 5 mark)).cell? ⟨w.heap.size, 0 + j, none⟩ = (bytesRow t cap)[j]? := by rw [Nat.zero_add]; exact World.cell?_alloc_mark w.drew _ _ _ j
  rw [hcell]
  have hj2 : j < t.data.size := by simpa using hj
  have hj3 : j < t.size := hj2
  simp [bytesRow, Array.getElem?_append, hj3, List.getD_eq_getElem?_getD]
theorem below_text (w : World) (o : Obj) : Below w.heap.size w (w.drew.alloc o) := (Below.refl _ _).drew.alloc (Nat.le_refl _) _
theorem sumL_lt (l : List UInt8) : sumL l < 4294967296 := by
  unfold sumL; split
  · omega
  · exact sumG_lt l
theorem len_text (t : ByteArray) : t.data.toList.length = t.size := (Lib.size_eq t).symm

set_option maxHeartbeats 2000000 in
set_option maxRecDepth 100000 in
theorem implRoute_any (t : ByteArray) (n : Int) (w : World) :
    Calls Try.prog 6 #[.string t, .int .i64 n] w fun e w' => e = .returned (.int .i64 (routeZ t n)) ∧ Below w.heap.size w w' := by
  by_cases h1 : 1 ≤ n ∧ n ≤ 8
  · obtain ⟨ha, hb⟩ := h1
    have HW : Hid ((decide ((1 : Int) ≤ n) && decide (n ≤ 8)) = true) := by show _ = _; simp [ha, hb]
    by_cases h2 : t.size ≤ 65536
    · have HR : Hid (routeZ t n = ((sumL t.data.toList : Nat) : Int) % n) := by show _ = _; unfold routeZ; rw [if_pos ⟨ha, hb, h2⟩]
      have hsz : ¬ (t.size : Int) > 65536 := by omega
      have hn0 : n ≠ 0 := by omega
      have hcv := run_bytes_of_string (P := Try.prog) w 9 22 5 t Try.underlying9 Try.underlying22 Try.underlying5
      generalize grownCap w t.size 0 5 = bc at *
      have HB := hidd (made_text w t bc ((bytesRow t bc).size, (bytesRow t bc).size + 1))
      have HL := hidd (below_text w (.cells (bytesRow t bc) 5 ((bytesRow t bc).size, (bytesRow t bc).size + 1)))
      generalize w.drew.alloc (.cells (bytesRow t bc) 5 ((bytesRow t bc).size, (bytesRow t bc).size + 1)) = w0 at *
      have HS : Hid (sumL t.data.toList < 4294967296) := sumL_lt _
      go_enter Try.func6, Try.ntmps6
      go_wp2_with fail
      refine (within_any n 1 8 _).mono ?_
      rintro e w1 ⟨rfl, hw1⟩
      obtain rfl := hw1.symm
      rw [HW.out]
      go_wp2_with fail
      refine ((len_text t) ▸ implSum_any w.heap.size 0 bc t.data.toList _ HB.out).mono ?_
      rintro e w2 ⟨rfl, hw2⟩
      obtain rfl := hw2.symm
      have hS := HS.out
      generalize sumL t.data.toList = S at *
      have hlo : 0 ≤ (S : Int) % n := Int.emod_nonneg _ hn0
      have hhi : (S : Int) % n < n := Int.emod_lt_of_pos _ (by omega)
      go_wp2_with fail
      go_ret
      exact ⟨by rw [HR.out]; rfl, HL.out⟩
    · have HR : Hid (routeZ t n = -1) := by show _ = _; unfold routeZ; rw [if_neg (by omega)]
      have hsz : (t.size : Int) > 65536 := by omega
      go_enter Try.func6, Try.ntmps6
      go_wp2_with fail
      refine (within_any n 1 8 _).mono ?_
      rintro e w1 ⟨rfl, hw1⟩
      obtain rfl := hw1.symm
      rw [HW.out]
      go_wp2_with fail
      go_ret
      exact ⟨by rw [HR.out]; rfl, Below.refl _ _⟩
  · have HW : Hid ((decide ((1 : Int) ≤ n) && decide (n ≤ 8)) = false) := by show _ = _; simp; omega
    have HR : Hid (routeZ t n = -1) := by show _ = _; unfold routeZ; rw [if_neg (by omega)]
    go_enter Try.func6, Try.ntmps6
    go_wp2_with fail
    refine (within_any n 1 8 _).mono ?_
    rintro e w1 ⟨rfl, hw1⟩
    obtain rfl := hw1.symm
    rw [HW.out]
    go_wp2_with fail
    go_ret
    exact ⟨by rw [HR.out]; rfl, Below.refl _ _⟩

set_option maxHeartbeats 2000000 in
set_option maxRecDepth 100000 in
theorem specRoute_any (t : ByteArray) (n : Int) (w : World) :
    Calls Try.prog 8 #[.string t, .int .i64 n] w fun e w' => e = .returned (.int .i64 (routeZ t n)) ∧ Below w.heap.size w w' := by
  by_cases h1 : 1 ≤ n ∧ n ≤ 8 ∧ t.size ≤ 65536
  · obtain ⟨ha, hb, h2⟩ := h1
    have HR : Hid (routeZ t n = ((sumL t.data.toList : Nat) : Int) % n) := by show _ = _; unfold routeZ; rw [if_pos ⟨ha, hb, h2⟩]
    have hn1 : ¬ n < 1 := by omega
    have hn8 : ¬ n > 8 := by omega
    have hsz : ¬ (t.size : Int) > 65536 := by omega
    have hn0 : n ≠ 0 := by omega
    have hcv := run_bytes_of_string (P := Try.prog) w 9 22 5 t Try.underlying9 Try.underlying22 Try.underlying5
    generalize grownCap w t.size 0 5 = bc at *
    have HB := hidd (made_text w t bc ((bytesRow t bc).size, (bytesRow t bc).size + 1))
    have HL := hidd (below_text w (.cells (bytesRow t bc) 5 ((bytesRow t bc).size, (bytesRow t bc).size + 1)))
    generalize w.drew.alloc (.cells (bytesRow t bc) 5 ((bytesRow t bc).size, (bytesRow t bc).size + 1)) = w0 at *
    have HS : Hid (sumL t.data.toList < 4294967296) := sumL_lt _
    go_enter Try.func8, Try.ntmps8
    go_wp2_with fail
    refine ((len_text t) ▸ specSum_any w.heap.size 0 bc t.data.toList _ HB.out).mono ?_
    rintro e w2 ⟨rfl, hw2⟩
    obtain rfl := hw2.symm
    have hS := HS.out
    generalize sumL t.data.toList = S at *
    have hlo : 0 ≤ (S : Int) % n := Int.emod_nonneg _ hn0
    have hhi : (S : Int) % n < n := Int.emod_lt_of_pos _ (by omega)
    go_wp2_with fail
    go_ret
    exact ⟨by rw [HR.out]; rfl, HL.out⟩
  · have HR : Hid (routeZ t n = -1) := by show _ = _; unfold routeZ; rw [if_neg h1]
    by_cases h3 : n < 1
    · go_enter Try.func8, Try.ntmps8
      go_wp2_with fail
      go_ret
      exact ⟨by rw [HR.out]; rfl, Below.refl _ _⟩
    · by_cases h4 : n > 8
      · go_enter Try.func8, Try.ntmps8
        go_wp2_with fail
        go_ret
        exact ⟨by rw [HR.out]; rfl, Below.refl _ _⟩
      · have hsz : (t.size : Int) > 65536 := by omega
        go_enter Try.func8, Try.ntmps8
        go_wp2_with fail
        go_ret
        exact ⟨by rw [HR.out]; rfl, Below.refl _ _⟩
end Go.Proofs.Ytommbfmhdkhacaa
