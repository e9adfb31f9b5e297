import Derived.Test.YtboocdiilbcdcaaDgOs
import Derived.Test.YtboocdiilbcdcaaDgQ
import Derived.Test.YtboocdiilbcdcaaFzD
namespace Go.Proofs.Ytboocdiilbcdcaa
open Go Go.RowKit Go.Shelf
set_option linter.unusedVariables false
set_option linter.unusedSimpArgs false
set_option maxRecDepth 100000

/-! impl.DigestOf: the numbers in order, in chunks. -/
attribute [local go_sem] Oper.semAt_some
set_option maxHeartbeats 4000000 in
theorem chunkN_any (n : Nat) (hn : 1 ≤ n) (l Bs Bn N cs s : Nat) (ad : Option Addr) (hN : N ≤ 4096) (hcap : N ≤ cs) (hs1 : 1 ≤ s) (hs2 : s ≤ 4096) (gs : Nat) (had : N = 0 ∨ ad = some ⟨gs, 0, none⟩) (J : Nat → World → Prop)
    (hJ : ∀ c W, J c W → W.cell? ⟨Bs, 0, none⟩ = some (.slice ad N cs) ∧ W.cell? ⟨Bn, 0, none⟩ = some (.int .i64 (s : Int)))
    (hJd : ∀ c W, J c W → J c W.drew)
    (hY : ∀ c I m W, I = c * s → I < N → 1 ≤ m → J c W → YieldAt Fence.wide (n - 1) Try.prog l #[.slice (some ⟨gs, I, none⟩) m m] W fun e W' => e = .returned (.bool true) ∧ J (c + 1) W')
    (W : World) (h0 : J 0 W) :
    CallsIn Fence.wide n Try.prog 53 #[.func (.yield l) #[] #[], .pointer (some ⟨Bs, 0, none⟩), .pointer (some ⟨Bn, 0, none⟩)] W fun e W' => (∃ v, e = .returned v) ∧ J (cntE N s) W' := by
  refine callsIn_of_wp Try.func53 rfl trivial ?_ rfl
  simp only [Try.ntmps53, List.size_toArray, List.length_cons, List.length_nil, Nat.reduceAdd, Nat.reduceSub, Array.replicate_succ, Array.replicate_zero, List.push_toArray, List.append_toArray, List.nil_append, List.cons_append]
  gi_wp2
  gi_loopw [4] (fun i wr => ∃ (c I : Nat), I = c * s ∧ i = .int .i64 (I : Int) ∧ I ≤ N + s ∧ c ≤ cntE N s ∧ J c wr) (fun i _ => N + s - (intOf i).toNat)
  case atStart => exact ⟨0, 0, by simp, by first | rfl | simp, by omega, Nat.zero_le _, h0⟩
  case round =>
    obtain ⟨c, I, hI, rfl, hIl, hcl, hJc⟩ := hrel
    have HJ := hidd hJc
    have HJJ := hidd hJ
    have HYY := hidd hY
    have HJD := hidd hJd
    have HI := hidd hI
    clear hJc h0 hJ hY hJd hI
    have k1 := (HJJ.out _ _ HJ.out).1
    have k2 := (HJJ.out _ _ HJ.out).2
    by_cases hlt : I < N
    · have hltz : (I : Int) < (N : Int) := by omega
      obtain rfl := had.resolve_left (by omega)
      have hcb : c < cntE N s := (cnt_lt hs1 c).2 (by rw [← HI.out]; exact hlt)
      obtain ⟨m, hm⟩ : ∃ m, min s (N - I) = m := ⟨_, rfl⟩
      have hmz : min (s : Int) ((N - I : Nat) : Int) = (m : Int) := by omega
      have hm0 : 1 ≤ m := by omega
      have hm1 : I + m ≤ N := by omega
      have hm2 : I + m ≤ cs := by omega
      have hcne : ¬ cs = I := by omega
      obtain ⟨fn, tmps, assign, body, hy, hR⟩ := HYY.out c I m wr.drew HI.out hlt hm0 (HJD.out _ _ HJ.out)
      clear hm
      gi_wp2
      gi_region
      all_goals gi_wp2
      all_goals
        refine hR.mono ?_
        rintro e W3 ⟨rfl, hJ3⟩
        have c3 : W3.cell? ⟨Bn, 0, none⟩ = some (.int .i64 (s : Int)) := (HJJ.out _ _ hJ3).2
        gi_wp2
        go_roundw
        · exact ⟨c + 1, I + s, by rw [HI.out, Nat.add_mul, Nat.one_mul], by go_num, by omega, hcb, hJ3⟩
        · simp [intOf]; omega
    · have hltz : ¬ (I : Int) < (N : Int) := by omega
      have HE : Hid (c = cntE N s) := by
        show _ = _
        rcases Nat.lt_or_ge c (cntE N s) with h | h
        · exact absurd ((cnt_lt hs1 c).1 h) (by rw [← HI.out]; exact hlt)
        · omega
      gi_wp2
      go_end0
      refine ⟨⟨_, rfl⟩, ?_⟩
      rw [← HE.out]
      exact HJ.out
theorem chunkF_any (a : Option Addr) (len cap s : Nat) (hs1 : 1 ≤ s) (w : World) :
    Calls Try.prog 33 #[.slice a len cap, .int .i64 (s : Int)] w fun e w' => e = .returned (.func (.func 53) #[] #[.pointer (some ⟨w.heap.size, 0, none⟩), .pointer (some ⟨w.heap.size + 1, 0, none⟩)]) ∧ w' = (w.alloc (.cells #[.slice a len cap] 23)).alloc (.cells #[.int .i64 (s : Int)] 3) := by
  have e2 : ¬ (s : Int) < 1 := by omega
  go_enter Try.func33, Try.ntmps33
  go_wp2
  go_ret
  exact ⟨rfl, rfl⟩
end Go.Proofs.Ytboocdiilbcdcaa
