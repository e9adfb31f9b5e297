import Derived.Test.YtecbjhakkebdmadDoorGaps
import Derived.Test.YtecbjhakkebdmadDoorDecS
import Derived.Test.YtecbjhakkebdmadDoorClassS
import Derived.Test.YtecbjhakkebdmadDoorBrkT
namespace Go.Proofs.YtecbjhakkebdmadDoor
open Go Go.RowKit
set_option linter.unusedVariables false

theorem quiet_tests (r : Int) (h : quietB r = true) : (clsZ r == 1) = false ∧ (clsZ r == 2) = false ∧ (clsZ r == 4) = false := by
  unfold quietB innB at h
  revert h
  cases (clsZ r == 1) <;> cases (clsZ r == 2) <;> cases (clsZ r == 4) <;> simp

set_option maxHeartbeats 1000000 in
theorem gap_any (t : ByteArray) (w : World) (hs : t.size ≤ 1048576) (h0 : decCode t = 0) (hq : ∀ r ∈ runes t, quietB r = true) :
    Calls Tryd.prog 11 #[.string t] w fun e w' => e = .returned (.bool true) ∧ Below w.heap.size w w' := by
  have HL := hidd (dec_list t h0)
  have HC := hidd h0
  have hn := runes_le t
  have HQ := hidd hq
  clear hq h0
  go_enter Tryd.func11, Tryd.ntmps11
  go_wp2_with fail
  refine (specDecode_any t _ hs).mono ?_
  rintro e w1 ⟨v, rfl, hown, hb1⟩
  rw [HC.out]
  rw [HL.out] at hown
  obtain ⟨zs, hzs⟩ : ∃ zs, zs = runes t := ⟨_, rfl⟩
  rw [← hzs] at hown HQ hn
  clear HL HC hzs
  rcases own_cases hown with ⟨rfl, hz⟩ | ⟨g, cap, rfl, hbg, hgl⟩
  · clear hown HQ
    go_wp2
    refine wp_loop_rounds 1 ?_
    rw [rounds_succ]
    go_wp2
    go_ret
    exact ⟨rfl, hb1⟩
  · have HO := hidd hown
    clear hown
    go_wp2
    go_loopw [5] (fun i wr => ∃ k : Nat, k ≤ zs.length ∧ i = .int .i64 k ∧ wr = w1) (fun i _ => zs.length - (intOf i).toNat)
    case atStart => exact ⟨0, Nat.zero_le _, rfl, rfl⟩
    case round =>
      obtain ⟨k, hk, rfl, rfl⟩ := hrel
      by_cases hlt : k < zs.length
      · have q1 : wr.cell? ⟨g, k, none⟩ = some (.int .i64 zs[k]) := by rw [HO.out.cellAt k (by omega)]; simp [hlt]
        have ⟨c1, c2, c4⟩ := quiet_tests _ (HQ.out zs[k] (List.getElem_mem hlt))
        have hch := hidd (specClass_any zs[k])
        generalize clsZ zs[k] = c at *
        go_wp2_with fail
        refine (hch.out _).mono ?_
        rintro e w2 ⟨rfl, rfl⟩
        go_wp2
        go_roundw
        case rel => exact ⟨k + 1, by omega, by go_num, trivial⟩
        case measure => simp [intOf]; omega
      · go_wp2
        go_ret
        exact ⟨rfl, hb1⟩
end Go.Proofs.YtecbjhakkebdmadDoor
