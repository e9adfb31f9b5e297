import Derived.Test.YtommbfmhdkhacaaRtD
namespace Go.Proofs.Ytommbfmhdkhacaa
open Go Go.RowKit
set_option linter.unusedVariables false

theorem emod_twice (S n : Int) : S % (2 * n) % n = S % n := Int.emod_emod_of_dvd S ⟨2, Int.mul_comm 2 n⟩

set_option maxHeartbeats 4000000 in
set_option maxRecDepth 100000 in
theorem routeFn_any (ao : Option Addr) (n cap : Nat) (w : World) (hc : CodeIn w ao n) :
    Calls Try.prog 3 #[.slice ao n cap] w fun e w' => e = .returned (.bool true) ∧ Below w.heap.size w w' := by
  by_cases hlong : (n : Int) > 1048576
  · go_enter Try.func3, Try.ntmps3
    go_wp2_with fail
    go_ret
    exact ⟨rfl, Below.refl _ _⟩
  have HC := hidd hc
  clear hc
  go_enter Try.func3, Try.ntmps3
  go_wp2_with fail
  refine (drawRoute_any ao n cap _ (by omega) HC.out).mono ?_
  rintro e w1 ⟨t, m, rfl, ht, hm0, hm1, hb1⟩
  have HB1 := hidd hb1
  clear hb1
  go_wp2_with fail
  refine (implRoute_any t m _).mono ?_
  rintro e w2 ⟨rfl, hb2⟩
  have HB2 := hidd (HB1.out.trans (hb2.mono HB1.out.size))
  clear hb2
  by_cases hin : 1 ≤ m ∧ m ≤ 8
  · obtain ⟨h1, h8⟩ := hin
    have e1 : ¬ m < 1 := by omega
    have e8 : ¬ m > 8 := by omega
    have hm00 : m ≠ 0 := by omega
    have hR : routeZ t m = ((sumL t.data.toList : Nat) : Int) % m := by unfold routeZ; rw [if_pos ⟨h1, h8, by omega⟩]
    have HR2 : Hid (2 * m ≤ 8 → routeZ t (2 * m) = ((sumL t.data.toList : Nat) : Int) % (2 * m)) := by
      show _ → _; intro h; unfold routeZ; rw [if_pos ⟨by omega, h, by omega⟩]
    have HS : Hid (sumL t.data.toList < 4294967296) := sumL_lt _
    rw [hR]
    clear hR
    have hlo : 0 ≤ ((sumL t.data.toList : Nat) : Int) % m := Int.emod_nonneg _ hm00
    have hhi : ((sumL t.data.toList : Nat) : Int) % m < m := Int.emod_lt_of_pos _ (by omega)
    obtain ⟨K, hK⟩ : ∃ K : Int, ((sumL t.data.toList : Nat) : Int) % m = K := ⟨_, rfl⟩
    have HK := hidd hK
    rw [hK] at hlo hhi ⊢
    clear hK
    have f1 : ¬ K < 0 := by omega
    have f2 : ¬ K ≥ m := by omega
    have hcv := run_bytes_of_string (P := Try.prog) w2 9 22 5 t Try.underlying9 Try.underlying22 Try.underlying5
    generalize grownCap w2 t.size 0 5 = bc at *
    have HB := hidd (made_text w2 t bc ((bytesRow t bc).size, (bytesRow t bc).size + 1))
    have HL := hidd (HB2.out.trans ((below_text w2 (.cells (bytesRow t bc) 5 ((bytesRow t bc).size, (bytesRow t bc).size + 1))).mono HB2.out.size))
    generalize w2.drew.alloc (.cells (bytesRow t bc) 5 ((bytesRow t bc).size, (bytesRow t bc).size + 1)) = w0 at *
    go_wp2_with fail
    refine ((len_text t) ▸ implSum_any w2.heap.size 0 bc t.data.toList _ HB.out).mono ?_
    rintro e w3 ⟨rfl, hw3⟩
    obtain rfl := hw3.symm
    have hS := HS.out
    generalize hSS : sumL t.data.toList = S at *
    have HSS := hidd hSS
    clear hSS hcv
    have hSK : (S : Int) % m = K := HK.out
    have hne : (K != K) = false := by simp
    by_cases h2 : 2 * m > 8
    · go_wp2_with fail
      go_ret
      exact ⟨rfl, HL.out⟩
    · go_wp2_with fail
      refine (implRoute_any t (2 * m) _).mono ?_
      rintro e w4 ⟨rfl, hb4⟩
      have HB4 := hidd (HL.out.trans (hb4.mono HL.out.size))
      clear hb4
      rw [HR2.out (by omega)]
      have hE := emod_twice (S : Int) m
      have hl2 : 0 ≤ (S : Int) % (2 * m) := Int.emod_nonneg _ (by omega)
      have hh2 : (S : Int) % (2 * m) < 2 * m := Int.emod_lt_of_pos _ (by omega)
      generalize (S : Int) % (2 * m) = T at *
      have hTK : T % m = K := hE.trans hSK
      clear hE hSK
      go_wp2_with fail
      go_ret
      exact ⟨rfl, HB4.out⟩
  · have hR : routeZ t m = -1 := by unfold routeZ; rw [if_neg (by omega)]
    rw [hR]
    by_cases h1 : m < 1
    · go_wp2_with fail
      go_ret
      exact ⟨rfl, HB2.out⟩
    · have h8 : m > 8 := by omega
      go_wp2_with fail
      go_ret
      exact ⟨rfl, HB2.out⟩
end Go.Proofs.Ytommbfmhdkhacaa
