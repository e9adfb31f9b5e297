import Derived.Test.YtefhmbnhhkgifaaDoorReadLogJ00
import Derived.Test.YtefhmbnhhkgifaaDoorReadLogJ10
import Derived.Test.YtefhmbnhhkgifaaDoorReadLogJ02
import Derived.Deep.QuietTactic
import Derived.BigQuiet
namespace Go.Proofs.YtefhmbnhhkgifaaDoor
open Go Go.RowKit
set_option linter.unusedVariables false
set_option linter.unusedSimpArgs false
set_option maxRecDepth 100000

def idC (c : UInt8) : Bool := decide (33 ≤ (c.toNat : Int)) && decide ((c.toNat : Int) ≤ 126)
def idV (id : List UInt8) : Bool := decide (1 ≤ id.length) && decide (id.length ≤ 30) && id.all idC
theorem get_listN (s : ByteArray) (k : Nat) (h : k < s.size) : s[k] = (lst s).getD k 0 := by
  have h' : k < (lst s).length := by rw [lst_len]; exact h
  rw [List.getD_eq_getElem?_getD, List.getElem?_eq_getElem h', Option.getD_some]
  simp [lst]
  rfl
theorem all_takeC (p : UInt8 → Bool) (l : List UInt8) {k : Nat} (hk : k < l.length) (h : (l.take k).all p = true) (hp : p (l.getD k 0) = true) : (l.take (k + 1)).all p = true := by
  rw [List.take_succ_eq_append_getElem hk, List.all_append, h]
  rw [List.getD_eq_getElem?_getD, List.getElem?_eq_getElem hk] at hp
  simpa using hp
theorem all_notC (p : UInt8 → Bool) (l : List UInt8) {k : Nat} (hk : k < l.length) (hp : p (l.getD k 0) = false) : l.all p = false := by
  rw [List.all_eq_false]
  rw [List.getD_eq_getElem?_getD, List.getElem?_eq_getElem hk] at hp
  exact ⟨l[k], List.getElem_mem hk, by simpa using hp⟩
set_option maxHeartbeats 2000000 in
theorem implId_any (s : ByteArray) (w : World) (hs : s.size ≤ 1048576) :
    Calls Tryd.prog 54 #[.string s] w fun e w' => e = .returned (.bool (idV (lst s))) ∧ w' = w := by
  go_enter Tryd.func54, Tryd.ntmps54
  have hll := lst_len s
  by_cases hin : 1 ≤ s.size ∧ s.size ≤ 30
  · have HW : Hid ((decide ((1 : Int) ≤ (s.size : Int)) && decide ((s.size : Int) ≤ 30)) = true) := by show _ = _; rw [decide_eq_true (by omega), decide_eq_true (by omega)]; rfl
    obtain ⟨h1, h30⟩ := hin
    have HI : Hid (idV (lst s) = (lst s).all idC) := by show _ = _; rw [idV, decide_eq_true (by omega), decide_eq_true (by omega)]; rfl
    go_wp2_with fail
    refine (within_any _ _ _ _).mono ?_
    rintro e w' ⟨rfl, hw⟩
    obtain rfl := hw.symm
    rw [HW.out]
    clear HW hw
    go_wp2_with fail
    go_loopw [10] (fun i wr => ∃ k : Nat, k ≤ s.size ∧ i = .int .i64 k ∧ ((lst s).take k).all idC = true ∧ wr = w) (fun i _ => s.size - (intOf i).toNat)
    case atStart => exact ⟨0, Nat.zero_le _, rfl, rfl, rfl⟩
    case round =>
      obtain ⟨k, hk, rfl, hall, hww⟩ := hrel
      have hww' := hww.symm
      subst hww'
      clear hww
      have HA := hidd hall
      clear hall
      by_cases hlt : k < s.size
      · have hkl : k < (lst s).length := by rw [lst_len]; exact hlt
        have HG := hidd (get_listN s k hlt)
        have hb8 : ((s[k]'hlt).toNat : Int) ≤ 255 := by have := UInt8.toNat_lt (s[k]'hlt); omega
        have HW1 : Hid ((decide ((33 : Int) ≤ ((s[k]'hlt).toNat : Int)) && decide (((s[k]'hlt).toNat : Int) ≤ 126)) = idC ((lst s).getD k 0)) := by show _ = _; rw [idC, HG.out]
        go_wp2_with fail
        refine (within_any _ _ _ _).mono ?_
        rintro e w' ⟨rfl, hw⟩
        obtain rfl := hw.symm
        rw [HW1.out]
        cases hc1 : idC ((lst s).getD k 0) with
        | true =>
          have HN : Hid (((lst s).take (k + 1)).all idC = true) := all_takeC _ _ hkl HA.out hc1
          clear hc1 HW1 hw
          go_wp2_with fail
          go_roundw
          case rel => exact ⟨k + 1, by omega, by go_num, HN.out, by first | trivial | rfl⟩
          case measure => simp [intOf]; omega
        | false =>
          have HR : Hid ((lst s).all idC = false) := all_notC _ _ hkl hc1
          clear hc1 HW1 hw
          go_wp2_with fail
          go_ret
          rw [HI.out, HR.out]
          exact ⟨rfl, rfl⟩
      · have HR : Hid ((lst s).all idC = true) := by
          have := HA.out
          rw [List.take_of_length_le (by rw [lst_len]; omega)] at this
          exact this
        go_wp2_with fail
        go_ret
        rw [HI.out, HR.out]
        exact ⟨rfl, rfl⟩
  · have HW : Hid ((decide ((1 : Int) ≤ (s.size : Int)) && decide ((s.size : Int) ≤ 30)) = false) := by
      show _ = _
      by_cases h1 : 1 ≤ s.size
      · rw [decide_eq_false (p := (s.size : Int) ≤ 30) (by omega), Bool.and_false]
      · rw [decide_eq_false (p := (1 : Int) ≤ (s.size : Int)) (by omega), Bool.false_and]
    have HI : Hid (idV (lst s) = false) := by
      show _ = _
      rw [idV]
      by_cases h1 : 1 ≤ s.size
      · rw [decide_eq_false (p := (lst s).length ≤ 30) (by omega)]; simp
      · rw [decide_eq_false (p := 1 ≤ (lst s).length) (by omega)]; simp
    clear hin
    go_wp2_with fail
    refine (within_any _ _ _ _).mono ?_
    rintro e w' ⟨rfl, hw⟩
    obtain rfl := hw.symm
    rw [HW.out]
    clear HW hw
    go_wp2_with fail
    go_ret
    rw [HI.out]
    exact ⟨rfl, rfl⟩
set_option maxHeartbeats 4000000 in
theorem specId_any (s : ByteArray) (w : World) (hs : s.size ≤ 1048576) :
    Calls Tryd.prog 32 #[.string s] w fun e w' => e = .returned (.bool (idV (lst s))) ∧ w' = w := by
  have hll := lst_len s
  go_enter Tryd.func32, Tryd.ntmps32
  go_wp2_with fail
  go_loopw [3] (fun i wr => ∃ k : Nat, k ≤ s.size ∧ i = .int .i64 k ∧ ((lst s).take k).all idC = true ∧ wr = w) (fun i _ => s.size - (intOf i).toNat)
  case atStart => exact ⟨0, Nat.zero_le _, rfl, rfl, rfl⟩
  case round =>
    obtain ⟨k, hk, rfl, hall, hww⟩ := hrel
    have hww' := hww.symm
    subst hww'
    clear hww
    have HA := hidd hall
    clear hall
    by_cases hlt : k < s.size
    · have hkz : (k : Int) < (s.size : Int) := by omega
      have hkl : k < (lst s).length := by rw [lst_len]; exact hlt
      have HG := hidd (get_listN s k hlt)
      obtain ⟨z, hz⟩ : ∃ z : Int, ((s[k]'hlt).toNat : Int) = z := ⟨_, rfl⟩
      have HZ : Hid (idC ((lst s).getD k 0) = (decide (33 ≤ z) && decide (z ≤ 126))) := by show _ = _; rw [idC, ← HG.out, hz]
      clear HG
      by_cases h1 : z < 33
      · have HR : Hid (idV (lst s) = false) := by
          show _ = _
          rw [idV, all_notC idC _ hkl (by rw [HZ.out, decide_eq_false (p := (33 : Int) ≤ z) (by omega)]; rfl)]
          simp
        clear HZ
        go_wp2_with fail
        go_ret
        rw [HR.out]
        exact ⟨rfl, rfl⟩
      by_cases h2 : z > 126
      · have HR : Hid (idV (lst s) = false) := by
          show _ = _
          rw [idV, all_notC idC _ hkl (by rw [HZ.out, decide_eq_false (p := z ≤ 126) (by omega)]; simp)]
          simp
        clear HZ
        go_wp2_with fail
        go_ret
        rw [HR.out]
        exact ⟨rfl, rfl⟩
      have HN : Hid (((lst s).take (k + 1)).all idC = true) := all_takeC _ _ hkl HA.out (by rw [HZ.out, decide_eq_true (p := (33 : Int) ≤ z) (by omega), decide_eq_true (p := z ≤ 126) (by omega)]; rfl)
      clear HZ
      go_wp2_with fail
      go_roundw
      case rel => exact ⟨k + 1, by omega, by go_num, HN.out, by first | trivial | rfl⟩
      case measure => simp [intOf]; omega
    · have hkz : ¬ (k : Int) < (s.size : Int) := by omega
      have HR : Hid (idV (lst s) = (decide (1 ≤ s.size) && decide (s.size ≤ 30))) := by
        show _ = _
        have := HA.out
        rw [List.take_of_length_le (by rw [lst_len]; omega)] at this
        rw [idV, this, hll, Bool.and_true]
      by_cases h1 : 1 ≤ s.size
      · by_cases h2 : s.size ≤ 30
        · have z1 : (1 : Int) ≤ (s.size : Int) := by omega
          have z2 : (s.size : Int) ≤ 30 := by omega
          rw [decide_eq_true h1, decide_eq_true h2] at HR
          go_wp2_with fail
          go_ret
          rw [HR.out]
          exact ⟨rfl, rfl⟩
        · have z1 : (1 : Int) ≤ (s.size : Int) := by omega
          have z2 : ¬ (s.size : Int) ≤ 30 := by omega
          rw [decide_eq_true h1, decide_eq_false h2] at HR
          go_wp2_with fail
          go_ret
          rw [HR.out]
          exact ⟨rfl, rfl⟩
      · have z1 : ¬ (1 : Int) ≤ (s.size : Int) := by omega
        rw [decide_eq_false h1, Bool.false_and] at HR
        go_wp2_with fail
        go_ret
        rw [HR.out]
        exact ⟨rfl, rfl⟩
end Go.Proofs.YtefhmbnhhkgifaaDoor

namespace Go.Proofs.YtefhmbnhhkgifaaDoor
open Go
set_option linter.unusedVariables false

/-! Records, in plain words: a kind, a number, an id, a document. -/
abbrev Rc := Int × Int × List UInt8 × Dc
def seqOK (q : Int) : Bool := decide (1 ≤ q) && decide (q ≤ 4611686018427387903)
def rcOK (x : Rc) : Bool := seqOK x.2.1 && if x.1 = 1 then decide (x.2.2.1.length = 0) && idV x.2.2.2.1 && dcOK x.2.2.2
  else decide (x.1 = 2) && idV x.2.2.1 && decide (x.2.2.2.1.length = 0) && decide (x.2.2.2.2.length = 0)
def rcPart (x : Rc) : List UInt8 := UInt8.ofNat x.1.toNat :: (putL x.2.1.toNat ++ if x.1 = 1 then dcB x.2.2.2 else x.2.2.1)
def partB (p : List UInt8) : List UInt8 := putL p.length ++ p ++ four (sumL p)
/-- What RecordBytes tells. -/
def rcO (x : Rc) : List UInt8 × Int := if rcOK x then if 1048576 < (partB (rcPart x)).length then ([], 2) else (partB (rcPart x), 0) else ([], 1)
/-- How many bytes a document has at least. -/
def vlL (v : Vl) : Nat := v.1.length + v.2.1.length + v.2.2.length
def txSum (tx : List (List UInt8)) : Nat := (tx.map List.length).sum
def bodyV (V : List Vl) : Nat := (V.map fun v => txSum v.2.1).sum
theorem sum_take (ns : List Nat) {k : Nat} (hk : k < ns.length) : (ns.take (k + 1)).sum = (ns.take k).sum + ns.getD k 0 := by
  rw [List.take_add_one, List.sum_append]; simp [hk]
theorem txSum_take (tx : List (List UInt8)) {k : Nat} (hk : k < tx.length) : txSum (tx.take (k + 1)) = txSum (tx.take k) + (tx.getD k []).length := by
  unfold txSum
  rw [List.map_take, List.map_take, sum_take _ (by simpa using hk)]; simp [hk]
theorem bodyV_take (V : List Vl) {k : Nat} (hk : k < V.length) : bodyV (V.take (k + 1)) = bodyV (V.take k) + txSum (V.getD k vl0).2.1 := by
  unfold bodyV
  rw [List.map_take, List.map_take, sum_take _ (by simpa using hk)]; simp [hk]
theorem sum_take_le (ns : List Nat) (k : Nat) : (ns.take k).sum ≤ ns.sum := by
  have : (ns.take k).sum + (ns.drop k).sum = ns.sum := by rw [← List.sum_append, List.take_append_drop]
  omega
theorem txSum_take_le (tx : List (List UInt8)) (k : Nat) : txSum (tx.take k) ≤ txSum tx := by
  unfold txSum; rw [List.map_take]; exact sum_take_le _ _
theorem bodyV_take_le (V : List Vl) (k : Nat) : bodyV (V.take k) ≤ bodyV V := by
  unfold bodyV; rw [List.map_take]; exact sum_take_le _ _
def lsV (V : List Vl) : Nat := (V.map vlL).sum
def leV (V : List Vl) : Nat := bodyV V + lsV V
theorem lsV_take (V : List Vl) {k : Nat} (hk : k < V.length) : lsV (V.take (k + 1)) = lsV (V.take k) + vlL (V.getD k vl0) := by
  unfold lsV
  rw [List.map_take, List.map_take, sum_take _ (by simpa using hk)]; simp [hk]
theorem lsV_take_le (V : List Vl) (k : Nat) : lsV (V.take k) ≤ lsV V := by
  unfold lsV; rw [List.map_take]; exact sum_take_le _ _
theorem four_len (n : Nat) : (four n).length = 4 := rfl
theorem partB_len (p : List UInt8) (h : p.length ≤ 4611686018427387903) : p.length + 5 ≤ (partB p).length ∧ (partB p).length ≤ p.length + 13 := by
  have h1 := putL_length9 p.length (by omega)
  have h2 := putL_pos p.length
  simp only [partB, List.length_append, four_len]
  omega
end Go.Proofs.YtefhmbnhhkgifaaDoor
