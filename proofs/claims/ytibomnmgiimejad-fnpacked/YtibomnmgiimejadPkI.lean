import Derived.Test.YtibomnmgiimejadPkB0
import Derived.Test.YtibomnmgiimejadPkS
namespace Go.Proofs.Ytibomnmgiimejad
open Go Go.RowKit
set_option linter.unusedVariables false

/-- A slice of whatever numbers, as it lies in a world. -/
def IntsAt (w : World) (b off : Nat) (zs : List Int) : Prop := ∀ t, t < zs.length → w.cell? ⟨b, off + t, none⟩ = some (.int .i64 (zs.getD t 0))
theorem IntsAt.below {w w' : World} {b off : Nat} {zs : List Int} (h : IntsAt w b off zs) (hb : Below w.heap.size w w') : IntsAt w' b off zs :=
  fun t ht => (hb.cell (p := ⟨b, off + t, none⟩) (cell_lt (h t ht))).trans (h t ht)
def numsOf (zs : List Int) : List Nat := zs.map Int.toNat
theorem numsOf_length (zs : List Int) : (numsOf zs).length = zs.length := by simp [numsOf]
theorem numsOf_62 {zs : List Int} (h : zs.all putOK = true) : nums62 (numsOf zs) := by
  intro v hv
  simp only [numsOf, List.mem_map] at hv
  obtain ⟨z, hz, rfl⟩ := hv
  have := List.all_eq_true.1 h z hz
  simp [putOK] at this
  omega
theorem IntsAt.nums {w : World} {b off : Nat} {zs : List Int} (h : IntsAt w b off zs) (ha : zs.all putOK = true) : NumsAt .i64 w b off (numsOf zs) := by
  intro t ht
  rw [numsOf_length] at ht
  rw [h t ht]
  have hm : putOK (zs.getD t 0) = true := List.all_eq_true.1 ha _ (by rw [List.getD_eq_getElem?_getD, List.getElem?_eq_getElem ht]; exact List.getElem_mem _)
  have e : (numsOf zs).getD t 0 = (zs.getD t 0).toNat := by simp [numsOf, ht]
  simp [putOK] at hm
  rw [e, Int.toNat_of_nonneg (by simpa [ht] using hm.1)]
def packOut (zs : List Int) : List UInt8 × Int :=
  if 4096 < zs.length then ([], 2) else if zs.all putOK then (packL (numsOf zs), 0) else ([], 12)
theorem all_takeP (zs : List Int) (k : Nat) (h : k < zs.length) : (zs.take (k + 1)).all putOK = ((zs.take k).all putOK && putOK (zs.getD k 0)) := by
  have ht : zs.take (k + 1) = zs.take k ++ [zs.getD k 0] := by rw [List.take_succ_eq_append_getElem h]; simp [h]
  rw [ht, List.all_append]; simp
theorem not_allP (zs : List Int) (k : Nat) (h : k < zs.length) (hn : putOK (zs.getD k 0) = false) : zs.all putOK = false := by
  cases ha : zs.all putOK with
  | false => rfl
  | true =>
    have := List.all_eq_true.1 ha (zs.getD k 0) (by rw [List.getD_eq_getElem?_getD, List.getElem?_eq_getElem h]; exact List.getElem_mem _)
    rw [hn] at this; cases this

set_option maxHeartbeats 1000000 in
set_option maxRecDepth 100000 in
theorem allNums_any (b off cap : Nat) (zs : List Int) (w : World) (hl : zs.length ≤ 1048576) (hc : IntsAt w b off zs) :
    Calls Try.prog 33 #[.slice (some ⟨b, off, none⟩) zs.length cap] w fun e w' => e = .returned (.bool (zs.all putOK)) ∧ w' = w := by
  have Hc := hidd hc
  clear hc
  go_enter Try.func33, Try.ntmps33
  go_wp2
  go_loop [3] (fun i => ∃ k : Nat, k ≤ zs.length ∧ i = .int .i64 k ∧ (zs.take k).all putOK = true) (fun i => zs.length - (intOf i).toNat)
  case atStart => exact ⟨0, Nat.zero_le _, rfl, rfl⟩
  case round =>
    obtain ⟨k, hk, rfl, hall⟩ := hrel
    have HA := hidd hall
    clear hall
    by_cases hlt : k < zs.length
    · have g1 := Hc.out k hlt
      have Ht := hidd (all_takeP zs k hlt)
      have Hn := hidd (not_allP zs k hlt)
      generalize zs.getD k 0 = z at *
      go_wp2_with fail
      refine (num_any _ _).mono ?_
      rintro e w' ⟨rfl, hw'⟩
      obtain rfl := hw'.symm
      clear hw'
      cases hp : putOK z with
      | true =>
        have HP := hidd hp
        clear hp
        go_wp2
        go_round
        case rel => exact ⟨k + 1, by omega, by go_num, by rw [Ht.out, HA.out, HP.out]; rfl⟩
        case measure => simp [intOf]; omega
      | false =>
        have HP := hidd hp
        clear hp
        go_wp2
        go_ret
        rw [Hn.out HP.out]
        exact ⟨rfl, rfl⟩
    · have HK : Hid (zs.all putOK = true) := by show _ = _; have := HA.out; rwa [List.take_of_length_le (by omega)] at this
      go_wp2
      go_ret
      rw [HK.out]
      exact ⟨rfl, rfl⟩

def numsCode (zs : List Int) : Int := if 4096 < zs.length then 2 else if zs.all putOK then 0 else 12
set_option maxHeartbeats 1000000 in
set_option maxRecDepth 100000 in
theorem numbersCode_any (b off cap : Nat) (zs : List Int) (w : World) (hc : IntsAt w b off zs) :
    Calls Try.prog 31 #[.slice (some ⟨b, off, none⟩) zs.length cap] w fun e w' => e = .returned (.int .i64 (numsCode zs)) ∧ w' = w := by
  have Hc := hidd hc
  clear hc
  by_cases hlong : 4096 < zs.length
  · have hlz : (4096 : Int) < (zs.length : Int) := by omega
    have HE : Hid (numsCode zs = 2) := by show _ = _; rw [numsCode, if_pos hlong]
    go_enter Try.func31, Try.ntmps31
    go_wp2
    go_ret
    rw [HE.out]
    exact ⟨rfl, rfl⟩
  · have hlz : ¬ (4096 : Int) < (zs.length : Int) := by omega
    have HE : Hid (numsCode zs = if zs.all putOK then 0 else 12) := by show _ = _; rw [numsCode, if_neg hlong]
    go_enter Try.func31, Try.ntmps31
    go_wp2
    go_loop [10] (fun i => ∃ k : Nat, k ≤ zs.length ∧ i = .int .i64 k ∧ (zs.take k).all putOK = true) (fun i => zs.length - (intOf i).toNat)
    case atStart => exact ⟨0, Nat.zero_le _, rfl, rfl⟩
    case round =>
      obtain ⟨k, hk, rfl, hall⟩ := hrel
      have HA := hidd hall
      clear hall
      by_cases hlt : k < zs.length
      · have g1 := Hc.out k hlt
        have Ht := hidd (all_takeP zs k hlt)
        have Hn := hidd (not_allP zs k hlt)
        generalize zs.getD k 0 = z at *
        go_wp2_with fail
        refine (within_any _ _ _ _).mono ?_
        rintro e w' ⟨rfl, hw'⟩
        obtain rfl := hw'.symm
        clear hw'
        have hpe : (decide ((0 : Int) ≤ z) && decide (z ≤ 4611686018427387903)) = putOK z := by simp [putOK]
        rw [hpe]
        clear hpe
        cases hp : putOK z with
        | true =>
          have HP := hidd hp
          clear hp
          go_wp2
          go_round
          case rel => exact ⟨k + 1, by omega, by go_num, by rw [Ht.out, HA.out, HP.out]; rfl⟩
          case measure => simp [intOf]; omega
        | false =>
          have HP := hidd hp
          clear hp
          go_wp2
          go_ret
          rw [HE.out, Hn.out HP.out]
          exact ⟨rfl, rfl⟩
      · have HK : Hid (zs.all putOK = true) := by show _ = _; have := HA.out; rwa [List.take_of_length_le (by omega)] at this
        go_wp2
        go_ret
        rw [HE.out, HK.out]
        exact ⟨rfl, rfl⟩
end Go.Proofs.Ytibomnmgiimejad
