import Derived.Test.YtpdiaddgialanaaGreatDoorLogJ14
import Derived.Test.YtpdiaddgialanaaGreatDoorLogJ05
import Derived.Lib.AppendStr
import Derived.Deep.CutBlock
import Derived.Test.YtpdiaddgialanaaGreatDoorLogJ01
import Derived.Deep.QuietTactic
import Derived.BigQuiet
namespace Go.Proofs.YtpdiaddgialanaaGreatDoor
open Go Go.RowKit
set_option linter.unusedVariables false
set_option maxRecDepth 100000

/-! Documents, in plain words: an id, values with a field, texts and numbers. -/
def txB (t : List UInt8) : List UInt8 := putL t.length ++ t
def unS (n : Int) : Nat := if n < 0 then (-2 * n - 1).toNat else (2 * n).toNat
def nuB (n : Int) : List UInt8 := putL (unS n)
def vlB (v : Vl) : List UInt8 := txB v.1 ++ putL v.2.1.length ++ v.2.1.flatMap txB ++ putL v.2.2.length ++ v.2.2.flatMap nuB
def dcB (d : Dc) : List UInt8 := txB d.1 ++ putL d.2.length ++ d.2.flatMap vlB
def txOK (t : List UInt8) : Bool := decide (t.length ≤ 65536)
def nuOK (n : Int) : Bool := decide (-1000000000000 ≤ n ∧ n ≤ 1000000000000)
def vlOK (v : Vl) : Bool := decide (v.1.length ≤ 65536 ∧ v.2.1.length ≤ 4096 ∧ v.2.2.length ≤ 4096) && v.2.1.all txOK && v.2.2.all nuOK
def dcOK (d : Dc) : Bool := decide (d.1.length ≤ 65536 ∧ d.2.length ≤ 4096) && d.2.all vlOK
/-- What DocBytes tells. -/
def docO (d : Dc) : List UInt8 × Int := if dcOK d then (dcB d, 0) else ([], 12)
theorem strCells_eq (l : List UInt8) : Lib.strCells ⟨l.toArray⟩ = Lib.byteCells l := by simp [Lib.strCells, Lib.byteCells]
theorem unS_lt {n : Int} (h : nuOK n = true) : unS n < 4611686018427387904 := by
  simp [nuOK] at h
  unfold unS
  split <;> omega
/-- Blocks that hold no bytes stay as they are. -/
def KeepB (w w' : World) : Prop := ∀ (Q : Nat) (cs : Array Value) (t : TypeId), t ≠ 5 → w.heap[Q]? = some (Obj.cells cs t) → w'.heap[Q]? = some (Obj.cells cs t)
theorem KeepB.refl (w : World) : KeepB w w := fun _ _ _ _ h => h
theorem KeepB.trans {a b c : World} (h : KeepB a b) (k : KeepB b c) : KeepB a c := fun Q cs t ht hq => k Q cs t ht (h Q cs t ht hq)
theorem KeepB.of {w w' : World} (h : Below w.heap.size w w') : KeepB w w' := fun Q cs t _ hq => blko hq h
theorem KeepB.grown {w w' : World} {base n : Nat} {v : Value} {ys : List Value} (ho : w.ownsRow base 5 1 v n ys) (hg : w.grownBy w' v.ownBlock) : KeepB w w' := fun Q cs t ht hq => box_grown hq (Below.refl _ _) hg (fun e => by
  obtain ⟨_, cur, hc⟩ := own_blk ho e
  exact blk_ne hc hq (Ne.symm ht) rfl)
set_option maxHeartbeats 2000000 in
/-- spec's l06PutText onto a row of one's own. -/
theorem putText_any (base n : Nat) (v : Value) (M t : List UInt8) (w : World) (hM : M.length = n) (hn : n ≤ 2000000000000) (ht : t.length ≤ 65536) (h : w.ownsRow base 5 1 v n (Lib.byteCells M)) (hb : base ≤ w.heap.size) :
    Calls Tryz.prog 62 #[v, .string ⟨t.toArray⟩] w fun e w' => ∃ v', e = .returned v' ∧ w'.ownsRow base 5 1 v' (M ++ txB t).length (Lib.byteCells (M ++ txB t)) ∧ Below base w w' ∧ KeepB w w' := by
  obtain ⟨i1, hi1, hy0, hy1, hy2⟩ := info_parts Tryz.infoByte
  have HO := hidd h
  have hsl : (⟨t.toArray⟩ : ByteArray).size = t.length := by rw [Lib.size_eq]
  have HP := hidd (specPut_any t.length w (by omega))
  have hpl := putL_length9 t.length (by omega)
  have Hlen : Hid ((M ++ txB t).length = n + (putL t.length).length + t.length) := by show _ = _; simp [txB, hM]; omega
  clear h hM
  go_enter Tryz.func62, Tryz.ntmps62
  go_wp2_with fail
  refine HP.out.mono ?_
  rintro e w1 ⟨gp, cp, rfl, hop, hb1⟩
  have HB1 := hidd hb1
  have HO1 := hidd (own_below HO.out hb1)
  have HBy := hidd (own_bytes hop rfl)
  have hp1 : 0 < (putL t.length).length := putL_pos _
  generalize hPR : putL t.length = PR at *
  have HPR := hidd hPR
  clear hPR
  have hz1 := hb1.size
  clear hop hb1 HP HO
  dsimp only
  go_wp2_with (at_builtin; refine wpList_append_lies _ rfl (.tmp 5) (.tmp 8) 22 rfl base 5 i1 (.int .u8 0) 1 1 Tryz.underlying22 hi1 hy0 hy1 hy2 rfl (by decide) v n (Lib.byteCells M) rfl HO1.out ⟨gp, 0, none⟩ PR.length cp (Lib.byteCells PR) rfl (by simp [Lib.byteCells]) (bytes_news HBy.out (Below.refl _ _)) (bytes_one _) hp1 (by unfold maxLen; omega) (by omega) (by omega) _ rfl ?_)
  intro g6 cp6 w6 hown6 hgrow6 hat6 hlt6
  have HO6 := hidd hown6
  have HB6 : Hid (Below base w w6) := (HB1.out.mono hb).grown hgrow6 (by omega) (fun k hk => (HO1.out.lt k hk).1)
  have HK6 : Hid (KeepB w w6) := (KeepB.of HB1.out).trans (.grown HO1.out hgrow6)
  have hz6 := hgrow6.size
  clear hown6 hgrow6 hat6 hlt6
  go_wp2_with (at_builtin; refine Lib.wpList_append_own_string _ rfl (.tmp 9) (.tmp 10) 22 9 rfl base 5 i1 Tryz.underlying22 Tryz.underlying9 hi1 hy0 hy1 hy2 (.slice (some ⟨g6, 0, none⟩) (n + PR.length) cp6) (n + PR.length) (Lib.byteCells M ++ Lib.byteCells PR) rfl HO6.out ⟨t.toArray⟩ rfl (by rw [hsl]; unfold maxLen; omega) (by rw [hsl]; omega) (by omega) ?_)
  intro v7 w7 hown7 hgrow7 hnil7
  rw [strCells_eq] at hown7
  have HO7 := hidd hown7
  have HB7 : Hid (Below base w w7) := HB6.out.grown hgrow7 (by omega) (fun k hk => (HO6.out.lt k hk).1)
  have HK7 : Hid (KeepB w w7) := HK6.out.trans (.grown HO6.out hgrow7)
  clear hown7 hgrow7 hnil7
  go_wp2_with fail
  go_ret
  refine ⟨v7, rfl, ?_, HB7.out, HK7.out⟩
  have e : Lib.byteCells (M ++ txB t) = Lib.byteCells M ++ (Lib.byteCells PR ++ Lib.byteCells t) := by
    rw [txB, HPR.out, Lib.byteCells_append, Lib.byteCells_append]
  rw [Hlen.out, e]
  exact HO7.out
set_option maxHeartbeats 2000000 in
/-- spec's l06PutNumber onto a row of one's own. -/
theorem putNumber_any (base n : Nat) (v : Value) (M : List UInt8) (z : Int) (w : World) (hM : M.length = n) (hn : n ≤ 2000000000000) (hz : nuOK z = true) (h : w.ownsRow base 5 1 v n (Lib.byteCells M)) (hb : base ≤ w.heap.size) :
    Calls Tryz.prog 63 #[v, .int .i64 z] w fun e w' => ∃ v', e = .returned v' ∧ w'.ownsRow base 5 1 v' (M ++ nuB z).length (Lib.byteCells (M ++ nuB z)) ∧ Below base w w' ∧ KeepB w w' := by
  obtain ⟨i1, hi1, hy0, hy1, hy2⟩ := info_parts Tryz.infoByte
  have HO := hidd h
  have HP := hidd (specPut_any (unS z) w (unS_lt hz))
  have hpl := putL_length9 (unS z) (unS_lt hz)
  have hp1 : 0 < (putL (unS z)).length := putL_pos _
  have Hlen : Hid ((M ++ nuB z).length = n + (putL (unS z)).length) := by show _ = _; simp [nuB, hM]
  have He : Hid (Lib.byteCells (M ++ nuB z) = Lib.byteCells M ++ Lib.byteCells (putL (unS z))) := by show _ = _; rw [nuB, Lib.byteCells_append]
  simp [nuOK] at hz
  have hU : ((unS z : Nat) : Int) = if z < 0 then -2 * z - 1 else 2 * z := by unfold unS; split <;> omega
  clear h hM
  generalize putL (unS z) = PR at *
  rw [hU] at HP
  clear hU
  go_enter Tryz.func63, Tryz.ntmps63
  by_cases hz0 : z < 0
  · rw [if_pos hz0] at HP
    go_wp2_with fail
    refine HP.out.mono ?_
    rintro e w1 ⟨gp, cp, rfl, hop, hb1⟩
    have HB1 := hidd hb1
    have HO1 := hidd (own_below HO.out hb1)
    have HBy := hidd (own_bytes hop rfl)
    have hz1 := hb1.size
    clear hop hb1 HP HO
    dsimp only
    go_wp2_with (at_builtin; refine wpList_append_lies _ rfl (.tmp 7) (.tmp 11) 22 rfl base 5 i1 (.int .u8 0) 1 1 Tryz.underlying22 hi1 hy0 hy1 hy2 rfl (by decide) v n (Lib.byteCells M) rfl HO1.out ⟨gp, 0, none⟩ PR.length cp (Lib.byteCells PR) rfl (by simp [Lib.byteCells]) (bytes_news HBy.out (Below.refl _ _)) (bytes_one _) hp1 (by unfold maxLen; omega) (by omega) (by omega) _ rfl ?_)
    intro g6 cp6 w6 hown6 hgrow6 hat6 hlt6
    have HO6 := hidd hown6
    have HB6 : Hid (Below base w w6) := (HB1.out.mono hb).grown hgrow6 (by omega) (fun k hk => (HO1.out.lt k hk).1)
    have HK6 : Hid (KeepB w w6) := (KeepB.of HB1.out).trans (.grown HO1.out hgrow6)
    clear hown6 hgrow6 hat6 hlt6
    go_wp2_with fail
    go_ret
    exact ⟨_, rfl, by rw [Hlen.out, He.out]; exact HO6.out, HB6.out, HK6.out⟩
  · rw [if_neg hz0] at HP
    go_wp2_with fail
    refine HP.out.mono ?_
    rintro e w1 ⟨gp, cp, rfl, hop, hb1⟩
    have HB1 := hidd hb1
    have HO1 := hidd (own_below HO.out hb1)
    have HBy := hidd (own_bytes hop rfl)
    have hz1 := hb1.size
    clear hop hb1 HP HO
    dsimp only
    go_wp2_with (at_builtin; refine wpList_append_lies _ rfl (.tmp 13) (.tmp 16) 22 rfl base 5 i1 (.int .u8 0) 1 1 Tryz.underlying22 hi1 hy0 hy1 hy2 rfl (by decide) v n (Lib.byteCells M) rfl HO1.out ⟨gp, 0, none⟩ PR.length cp (Lib.byteCells PR) rfl (by simp [Lib.byteCells]) (bytes_news HBy.out (Below.refl _ _)) (bytes_one _) hp1 (by unfold maxLen; omega) (by omega) (by omega) _ rfl ?_)
    intro g6 cp6 w6 hown6 hgrow6 hat6 hlt6
    have HO6 := hidd hown6
    have HB6 : Hid (Below base w w6) := (HB1.out.mono hb).grown hgrow6 (by omega) (fun k hk => (HO1.out.lt k hk).1)
    have HK6 : Hid (KeepB w w6) := (KeepB.of HB1.out).trans (.grown HO1.out hgrow6)
    clear hown6 hgrow6 hat6 hlt6
    go_wp2_with fail
    go_ret
    exact ⟨_, rfl, by rw [Hlen.out, He.out]; exact HO6.out, HB6.out, HK6.out⟩
end Go.Proofs.YtpdiaddgialanaaGreatDoor

namespace Go.Proofs.YtpdiaddgialanaaGreatDoor
open Go Go.RowKit
set_option linter.unusedVariables false
set_option linter.unusedSimpArgs false
set_option maxRecDepth 100000

def idC (c : UInt8) : Bool := decide (33 ≤ (c.toNat : Int)) && decide ((c.toNat : Int) ≤ 126)
def idV (id : List UInt8) : Bool := decide (1 ≤ id.length) && decide (id.length ≤ 30) && id.all idC
theorem get_listN (s : ByteArray) (k : Nat) (h : k < s.size) : s[k] = (lst s).getD k 0 := by
  have h' : k < (lst s).length := by rw [lst_len]; exact h
  rw [List.getD_eq_getElem?_getD, List.getElem?_eq_getElem h', Option.getD_some]
  simp [lst]
  rfl
theorem all_takeC (p : UInt8 → Bool) (l : List UInt8) {k : Nat} (hk : k < l.length) (h : (l.take k).all p = true) (hp : p (l.getD k 0) = true) : (l.take (k + 1)).all p = true := by
  rw [List.take_succ_eq_append_getElem hk, List.all_append, h]
  rw [List.getD_eq_getElem?_getD, List.getElem?_eq_getElem hk] at hp
  simpa using hp
theorem all_notC (p : UInt8 → Bool) (l : List UInt8) {k : Nat} (hk : k < l.length) (hp : p (l.getD k 0) = false) : l.all p = false := by
  rw [List.all_eq_false]
  rw [List.getD_eq_getElem?_getD, List.getElem?_eq_getElem hk] at hp
  exact ⟨l[k], List.getElem_mem hk, by simpa using hp⟩
set_option maxHeartbeats 2000000 in
theorem implId_any (s : ByteArray) (w : World) (hs : s.size ≤ 1048576) :
    Calls Tryz.prog 37 #[.string s] w fun e w' => e = .returned (.bool (idV (lst s))) ∧ w' = w := by
  go_enter Tryz.func37, Tryz.ntmps37
  have hll := lst_len s
  by_cases hin : 1 ≤ s.size ∧ s.size ≤ 30
  · have HW : Hid ((decide ((1 : Int) ≤ (s.size : Int)) && decide ((s.size : Int) ≤ 30)) = true) := by show _ = _; rw [decide_eq_true (by omega), decide_eq_true (by omega)]; rfl
    obtain ⟨h1, h30⟩ := hin
    have HI : Hid (idV (lst s) = (lst s).all idC) := by show _ = _; rw [idV, decide_eq_true (by omega), decide_eq_true (by omega)]; rfl
    go_wp2_with fail
    refine (within_any _ _ _ _).mono ?_
    rintro e w' ⟨rfl, hw⟩
    obtain rfl := hw.symm
    rw [HW.out]
    clear HW hw
    go_wp2_with fail
    go_loopw [10] (fun i wr => ∃ k : Nat, k ≤ s.size ∧ i = .int .i64 k ∧ ((lst s).take k).all idC = true ∧ wr = w) (fun i _ => s.size - (intOf i).toNat)
    case atStart => exact ⟨0, Nat.zero_le _, rfl, rfl, rfl⟩
    case round =>
      obtain ⟨k, hk, rfl, hall, hww⟩ := hrel
      have hww' := hww.symm
      subst hww'
      clear hww
      have HA := hidd hall
      clear hall
      by_cases hlt : k < s.size
      · have hkl : k < (lst s).length := by rw [lst_len]; exact hlt
        have HG := hidd (get_listN s k hlt)
        have hb8 : ((s[k]'hlt).toNat : Int) ≤ 255 := by have := UInt8.toNat_lt (s[k]'hlt); omega
        have HW1 : Hid ((decide ((33 : Int) ≤ ((s[k]'hlt).toNat : Int)) && decide (((s[k]'hlt).toNat : Int) ≤ 126)) = idC ((lst s).getD k 0)) := by show _ = _; rw [idC, HG.out]
        go_wp2_with fail
        refine (within_any _ _ _ _).mono ?_
        rintro e w' ⟨rfl, hw⟩
        obtain rfl := hw.symm
        rw [HW1.out]
        cases hc1 : idC ((lst s).getD k 0) with
        | true =>
          have HN : Hid (((lst s).take (k + 1)).all idC = true) := all_takeC _ _ hkl HA.out hc1
          clear hc1 HW1 hw
          go_wp2_with fail
          go_roundw
          case rel => exact ⟨k + 1, by omega, by go_num, HN.out, by first | trivial | rfl⟩
          case measure => simp [intOf]; omega
        | false =>
          have HR : Hid ((lst s).all idC = false) := all_notC _ _ hkl hc1
          clear hc1 HW1 hw
          go_wp2_with fail
          go_ret
          rw [HI.out, HR.out]
          exact ⟨rfl, rfl⟩
      · have HR : Hid ((lst s).all idC = true) := by
          have := HA.out
          rw [List.take_of_length_le (by rw [lst_len]; omega)] at this
          exact this
        go_wp2_with fail
        go_ret
        rw [HI.out, HR.out]
        exact ⟨rfl, rfl⟩
  · have HW : Hid ((decide ((1 : Int) ≤ (s.size : Int)) && decide ((s.size : Int) ≤ 30)) = false) := by
      show _ = _
      by_cases h1 : 1 ≤ s.size
      · rw [decide_eq_false (p := (s.size : Int) ≤ 30) (by omega), Bool.and_false]
      · rw [decide_eq_false (p := (1 : Int) ≤ (s.size : Int)) (by omega), Bool.false_and]
    have HI : Hid (idV (lst s) = false) := by
      show _ = _
      rw [idV]
      by_cases h1 : 1 ≤ s.size
      · rw [decide_eq_false (p := (lst s).length ≤ 30) (by omega)]; simp
      · rw [decide_eq_false (p := 1 ≤ (lst s).length) (by omega)]; simp
    clear hin
    go_wp2_with fail
    refine (within_any _ _ _ _).mono ?_
    rintro e w' ⟨rfl, hw⟩
    obtain rfl := hw.symm
    rw [HW.out]
    clear HW hw
    go_wp2_with fail
    go_ret
    rw [HI.out]
    exact ⟨rfl, rfl⟩
set_option maxHeartbeats 4000000 in
theorem specId_any (s : ByteArray) (w : World) (hs : s.size ≤ 1048576) :
    Calls Tryz.prog 43 #[.string s] w fun e w' => e = .returned (.bool (idV (lst s))) ∧ w' = w := by
  have hll := lst_len s
  go_enter Tryz.func43, Tryz.ntmps43
  go_wp2_with fail
  go_loopw [3] (fun i wr => ∃ k : Nat, k ≤ s.size ∧ i = .int .i64 k ∧ ((lst s).take k).all idC = true ∧ wr = w) (fun i _ => s.size - (intOf i).toNat)
  case atStart => exact ⟨0, Nat.zero_le _, rfl, rfl, rfl⟩
  case round =>
    obtain ⟨k, hk, rfl, hall, hww⟩ := hrel
    have hww' := hww.symm
    subst hww'
    clear hww
    have HA := hidd hall
    clear hall
    by_cases hlt : k < s.size
    · have hkz : (k : Int) < (s.size : Int) := by omega
      have hkl : k < (lst s).length := by rw [lst_len]; exact hlt
      have HG := hidd (get_listN s k hlt)
      obtain ⟨z, hz⟩ : ∃ z : Int, ((s[k]'hlt).toNat : Int) = z := ⟨_, rfl⟩
      have HZ : Hid (idC ((lst s).getD k 0) = (decide (33 ≤ z) && decide (z ≤ 126))) := by show _ = _; rw [idC, ← HG.out, hz]
      clear HG
      by_cases h1 : z < 33
      · have HR : Hid (idV (lst s) = false) := by
          show _ = _
          rw [idV, all_notC idC _ hkl (by rw [HZ.out, decide_eq_false (p := (33 : Int) ≤ z) (by omega)]; rfl)]
          simp
        clear HZ
        go_wp2_with fail
        go_ret
        rw [HR.out]
        exact ⟨rfl, rfl⟩
      by_cases h2 : z > 126
      · have HR : Hid (idV (lst s) = false) := by
          show _ = _
          rw [idV, all_notC idC _ hkl (by rw [HZ.out, decide_eq_false (p := z ≤ 126) (by omega)]; simp)]
          simp
        clear HZ
        go_wp2_with fail
        go_ret
        rw [HR.out]
        exact ⟨rfl, rfl⟩
      have HN : Hid (((lst s).take (k + 1)).all idC = true) := all_takeC _ _ hkl HA.out (by rw [HZ.out, decide_eq_true (p := (33 : Int) ≤ z) (by omega), decide_eq_true (p := z ≤ 126) (by omega)]; rfl)
      clear HZ
      go_wp2_with fail
      go_roundw
      case rel => exact ⟨k + 1, by omega, by go_num, HN.out, by first | trivial | rfl⟩
      case measure => simp [intOf]; omega
    · have hkz : ¬ (k : Int) < (s.size : Int) := by omega
      have HR : Hid (idV (lst s) = (decide (1 ≤ s.size) && decide (s.size ≤ 30))) := by
        show _ = _
        have := HA.out
        rw [List.take_of_length_le (by rw [lst_len]; omega)] at this
        rw [idV, this, hll, Bool.and_true]
      by_cases h1 : 1 ≤ s.size
      · by_cases h2 : s.size ≤ 30
        · have z1 : (1 : Int) ≤ (s.size : Int) := by omega
          have z2 : (s.size : Int) ≤ 30 := by omega
          rw [decide_eq_true h1, decide_eq_true h2] at HR
          go_wp2_with fail
          go_ret
          rw [HR.out]
          exact ⟨rfl, rfl⟩
        · have z1 : (1 : Int) ≤ (s.size : Int) := by omega
          have z2 : ¬ (s.size : Int) ≤ 30 := by omega
          rw [decide_eq_true h1, decide_eq_false h2] at HR
          go_wp2_with fail
          go_ret
          rw [HR.out]
          exact ⟨rfl, rfl⟩
      · have z1 : ¬ (1 : Int) ≤ (s.size : Int) := by omega
        rw [decide_eq_false h1, Bool.false_and] at HR
        go_wp2_with fail
        go_ret
        rw [HR.out]
        exact ⟨rfl, rfl⟩
end Go.Proofs.YtpdiaddgialanaaGreatDoor

namespace Go.Proofs.YtpdiaddgialanaaGreatDoor
open Go
set_option linter.unusedVariables false

/-! Records, in plain words: a kind, a number, an id, a document. -/
abbrev Rc := Int × Int × List UInt8 × Dc
def seqOK (q : Int) : Bool := decide (1 ≤ q) && decide (q ≤ 4611686018427387903)
def rcOK (x : Rc) : Bool := seqOK x.2.1 && if x.1 = 1 then decide (x.2.2.1.length = 0) && idV x.2.2.2.1 && dcOK x.2.2.2
  else decide (x.1 = 2) && idV x.2.2.1 && decide (x.2.2.2.1.length = 0) && decide (x.2.2.2.2.length = 0)
def rcPart (x : Rc) : List UInt8 := UInt8.ofNat x.1.toNat :: (putL x.2.1.toNat ++ if x.1 = 1 then dcB x.2.2.2 else x.2.2.1)
def partB (p : List UInt8) : List UInt8 := putL p.length ++ p ++ four (sumL p)
/-- What RecordBytes tells. -/
def rcO (x : Rc) : List UInt8 × Int := if rcOK x then if 1048576 < (partB (rcPart x)).length then ([], 2) else (partB (rcPart x), 0) else ([], 1)
/-- How many bytes a document has at least. -/
def vlL (v : Vl) : Nat := v.1.length + v.2.1.length + v.2.2.length
def txSum (tx : List (List UInt8)) : Nat := (tx.map List.length).sum
def bodyV (V : List Vl) : Nat := (V.map fun v => txSum v.2.1).sum
theorem sum_take (ns : List Nat) {k : Nat} (hk : k < ns.length) : (ns.take (k + 1)).sum = (ns.take k).sum + ns.getD k 0 := by
  rw [List.take_add_one, List.sum_append]; simp [hk]
theorem txSum_take (tx : List (List UInt8)) {k : Nat} (hk : k < tx.length) : txSum (tx.take (k + 1)) = txSum (tx.take k) + (tx.getD k []).length := by
  unfold txSum
  rw [List.map_take, List.map_take, sum_take _ (by simpa using hk)]; simp [hk]
theorem bodyV_take (V : List Vl) {k : Nat} (hk : k < V.length) : bodyV (V.take (k + 1)) = bodyV (V.take k) + txSum (V.getD k vl0).2.1 := by
  unfold bodyV
  rw [List.map_take, List.map_take, sum_take _ (by simpa using hk)]; simp [hk]
theorem sum_take_le (ns : List Nat) (k : Nat) : (ns.take k).sum ≤ ns.sum := by
  have : (ns.take k).sum + (ns.drop k).sum = ns.sum := by rw [← List.sum_append, List.take_append_drop]
  omega
theorem txSum_take_le (tx : List (List UInt8)) (k : Nat) : txSum (tx.take k) ≤ txSum tx := by
  unfold txSum; rw [List.map_take]; exact sum_take_le _ _
theorem bodyV_take_le (V : List Vl) (k : Nat) : bodyV (V.take k) ≤ bodyV V := by
  unfold bodyV; rw [List.map_take]; exact sum_take_le _ _
def lsV (V : List Vl) : Nat := (V.map vlL).sum
def leV (V : List Vl) : Nat := bodyV V + lsV V
theorem lsV_take (V : List Vl) {k : Nat} (hk : k < V.length) : lsV (V.take (k + 1)) = lsV (V.take k) + vlL (V.getD k vl0) := by
  unfold lsV
  rw [List.map_take, List.map_take, sum_take _ (by simpa using hk)]; simp [hk]
theorem lsV_take_le (V : List Vl) (k : Nat) : lsV (V.take k) ≤ lsV V := by
  unfold lsV; rw [List.map_take]; exact sum_take_le _ _
theorem four_len (n : Nat) : (four n).length = 4 := rfl
theorem partB_len (p : List UInt8) (h : p.length ≤ 4611686018427387903) : p.length + 5 ≤ (partB p).length ∧ (partB p).length ≤ p.length + 13 := by
  have h1 := putL_length9 p.length (by omega)
  have h2 := putL_pos p.length
  simp only [partB, List.length_append, four_len]
  omega
end Go.Proofs.YtpdiaddgialanaaGreatDoor
