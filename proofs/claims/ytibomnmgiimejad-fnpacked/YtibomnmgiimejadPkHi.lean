import Derived.RangeFuncNested
import Derived.RangeFuncBound
import Derived.RangeFuncCalls
import Derived.RangeFuncLeaves
import Derived.RangeFuncFrom
import Derived.Shelf.Abstract
import Derived.Shelf.RegionOpen
import Derived.WalkKit
import Derived.OwnWalkIn
import Derived.TacticsInMore
import Derived.LoopNIn
import Derived.LoopIn
import Derived.Test.YtibomnmgiimejadPkH0
namespace Go.Proofs.Ytibomnmgiimejad
open Go Go.RowKit Go.Shelf
set_option linter.unusedVariables false
attribute [local go_sem] Oper.semAt_some

set_option maxRecDepth 100000 in
set_option maxHeartbeats 2000000 in
theorem chunk1_int (F : Fence) (n : Nat) (hF : F.fn 95) (hro : F.round = none) (hn : 1 ≤ n) (l Bs Bn b off len cap : Nat) (hlen : len ≤ 4096) (hcap : len ≤ cap) (J Jx : List Nat → World → Prop) (Bb : Nat) (hJa : AbidesFrom Bb J)
    (hY : ∀ pre x W, J pre W → pre.length < (starts 0 len).length → YieldAt F (n - 1) Try.prog l (chunkOf b off len x) W fun e W' =>
      (e = .returned (.bool true) ∧ J (pre ++ [x]) W' ∧ KpC Bs Bn W W') ∨ (e = .returned (.bool false) ∧ Jx (pre ++ [x]) W'))
    (W : World) (hBs : W.cell? ⟨Bs, 0, none⟩ = some (.slice (some ⟨b, off, none⟩) len cap)) (hBn : W.cell? ⟨Bn, 0, none⟩ = some (.int .i64 128)) (h0 : J [] W) :
    CallsIn F n Try.prog 95 #[.func (.yield l) #[] #[], .pointer (some ⟨Bs, 0, none⟩), .pointer (some ⟨Bn, 0, none⟩)] W fun e W' => (∃ v, e = .returned v) ∧
      ((∃ ys, ys = starts 0 len ∧ J ys W') ∨ (∃ pre : List Nat, True ∧ Jx pre W')) := by
  refine callsIn_of_wp Try.func95 rfl hF ?_ hro
  simp only [Try.ntmps95, List.size_toArray, List.length_cons, List.length_nil, Nat.reduceAdd, Nat.reduceSub, Array.replicate_succ, Array.replicate_zero, List.push_toArray, List.append_toArray, List.nil_append, List.cons_append]
  gi_wp2
  gi_loopw [4] (fun i wr => ∃ (at_ : Nat) (pre : List Nat), i = .int .i64 (at_ : Int) ∧ at_ ≤ 4224 ∧ pre ++ starts at_ len = starts 0 len ∧ J pre wr ∧ KpC Bs Bn W wr) (fun i _ => 8192 - (intOf i).toNat)
  case atStart => exact ⟨0, [], rfl, by omega, rfl, h0, KpC.refl _ _ _⟩
  case round =>
    obtain ⟨at_, pre, rfl, hat, hpre, hJs, hkp⟩ := hrel
    have c1 := (cell_heap hkp.1 0).trans hBs
    have c2 := (cell_heap hkp.2 0).trans hBn
    have Hkp := hidd hkp
    have Hpre := hidd hpre
    have HJ := hidd hJs
    clear hkp hpre hJs
    by_cases hlt : at_ < len
    · have hltz : (at_ : Int) < (len : Int) := by omega
      have Hst := hidd (starts_step at_ len hlt)
      have hpl : pre.length < (starts 0 len).length := by have := congrArg List.length Hpre.out; rw [List.length_append, Hst.out, List.length_cons] at this; omega
      have hJd : J pre wr.drew := hJa pre wr wr.drew none HJ.out ⟨rfl, rfl, rfl, Nat.le_refl _, fun _ _ _ => rfl⟩ (fun r e => by cases e)
      obtain ⟨m, hm⟩ : ∃ m, min 128 (len - at_) = m := ⟨_, rfl⟩
      have hmz : min (128 : Int) ((len - at_ : Nat) : Int) = (m : Int) := by omega
      have hm1 : at_ + m ≤ len := by omega
      have hm2 : at_ + m ≤ cap := by omega
      obtain ⟨fn, tmps, assign, body, hy, hR⟩ := hY pre at_ wr.drew hJd hpl
      rw [chunkOf, hm] at hy
      have hcne : ¬ cap = at_ := by omega
      clear hm hJd
      gi_wp2
      gi_region
      all_goals gi_wp2
      all_goals
        refine hR.mono ?_
        rintro e W3 (⟨rfl, hJ3, hk3⟩ | ⟨rfl, hJx3⟩)
        · have c3 : W3.cell? ⟨Bn, 0, none⟩ = some (.int .i64 128) := (cell_heap hk3.2 0).trans c2
          have hk4 : KpC Bs Bn wr W3 := hk3
          gi_wp2
          go_roundw
          · exact ⟨at_ + 128, pre ++ [at_], by go_num, by omega, by rw [List.append_assoc, ← Hpre.out, Hst.out]; rfl, hJ3, Hkp.out.trans hk4⟩
          · simp [intOf]; omega
        · gi_wp2
          refine bodyPost_ret (results_none rfl _ _ _) rfl ?_
          exact ⟨⟨_, rfl⟩, .inr ⟨_, trivial, hJx3⟩⟩
    · have hltz : ¬ (at_ : Int) < (len : Int) := by omega
      have HE : Hid (pre = starts 0 len) := by
        show _ = _
        have := Hpre.out
        rw [starts_end at_ len hlt, List.append_nil] at this
        exact this
      gi_wp2
      go_end0
      refine ⟨⟨_, rfl⟩, .inl ?_⟩
      have hj := HJ.out
      rw [HE.out] at hj
      first | exact hj | exact ⟨_, rfl, hj⟩

theorem chunk_int (F : Fence) (n : Nat) (hF : F.fn 65) (hro : F.round = none) (a : Option Addr) (len cap : Nat) (w : World) :
    CallsIn F n Try.prog 65 #[.slice a len cap, .int .i64 128] w fun e w' => e = .returned (.func (.func 95) #[] #[.pointer (some ⟨w.heap.size, 0, none⟩), .pointer (some ⟨w.heap.size + 1, 0, none⟩)]) ∧ w' = (w.alloc (.cells #[.slice a len cap] 23)).alloc (.cells #[.int .i64 128] 3) := by
  refine callsIn_of_wp Try.func65 rfl hF ?_ hro
  simp only [Try.ntmps65, List.size_toArray, List.length_cons, List.length_nil, Nat.reduceAdd, Nat.reduceSub, Array.replicate_succ, Array.replicate_zero, List.push_toArray, List.append_toArray, List.nil_append, List.cons_append]
  gi_wp2
  go_ret
  exact ⟨rfl, rfl⟩

theorem chunk_stops_int (F : Fence) (n : Nat) (hF : F.fn 95) (hro : F.round = none) (hn : 1 ≤ n) (Bs Bn b off len cap : Nat) (hlen : len ≤ 4096) (hcap : len ≤ cap) (w : World)
    (hBs : Bs < w.heap.size) (hBn : Bn < w.heap.size) (hc1 : w.cell? ⟨Bs, 0, none⟩ = some (.slice (some ⟨b, off, none⟩) len cap)) (hc2 : w.cell? ⟨Bn, 0, none⟩ = some (.int .i64 128)) :
    SeqStopsK F n Try.prog 95 #[.pointer (some ⟨Bs, 0, none⟩), .pointer (some ⟨Bn, 0, none⟩)] (fun x : Nat => chunkOf b off len x) (KpC Bs Bn) (fun ys => ys = starts 0 len) (fun _ => True) (starts 0 len).length w := fun l J Jx W hW hJ _ hY h0 => by
  have k1 := (hW.cell (p := ⟨Bs, 0, none⟩) hBs).trans hc1
  have k2 := (hW.cell (p := ⟨Bn, 0, none⟩) hBn).trans hc2
  exact chunk1_int F n hF hro hn l Bs Bn b off len cap hlen hcap J Jx _ hJ hY W k1 k2 h0
end Go.Proofs.Ytibomnmgiimejad
