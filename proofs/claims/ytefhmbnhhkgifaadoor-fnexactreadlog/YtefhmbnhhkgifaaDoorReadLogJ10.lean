import Derived.Test.YtefhmbnhhkgifaaDoorReadLogJ05
import Derived.Test.YtefhmbnhhkgifaaDoorReadLogJ07
import Derived.Test.YtefhmbnhhkgifaaDoorReadLogJ09
import Derived.Lib.AppendStr
import Derived.Deep.CutBlock
import Derived.Lib.Strings
namespace Go.Proofs.YtefhmbnhhkgifaaDoor
open Go Go.RowKit
set_option linter.unusedVariables false
set_option maxRecDepth 100000

/-! Documents, in plain words: an id, values with a field, texts and numbers. -/
def txB (t : List UInt8) : List UInt8 := putL t.length ++ t
def unS (n : Int) : Nat := if n < 0 then (-2 * n - 1).toNat else (2 * n).toNat
def nuB (n : Int) : List UInt8 := putL (unS n)
def vlB (v : Vl) : List UInt8 := txB v.1 ++ putL v.2.1.length ++ v.2.1.flatMap txB ++ putL v.2.2.length ++ v.2.2.flatMap nuB
def dcB (d : Dc) : List UInt8 := txB d.1 ++ putL d.2.length ++ d.2.flatMap vlB
def txOK (t : List UInt8) : Bool := decide (t.length ≤ 65536)
def nuOK (n : Int) : Bool := decide (-1000000000000 ≤ n ∧ n ≤ 1000000000000)
def vlOK (v : Vl) : Bool := decide (v.1.length ≤ 65536 ∧ v.2.1.length ≤ 4096 ∧ v.2.2.length ≤ 4096) && v.2.1.all txOK && v.2.2.all nuOK
def dcOK (d : Dc) : Bool := decide (d.1.length ≤ 65536 ∧ d.2.length ≤ 4096) && d.2.all vlOK
/-- What DocBytes tells. -/
def docO (d : Dc) : List UInt8 × Int := if dcOK d then (dcB d, 0) else ([], 12)
theorem strCells_eq (l : List UInt8) : Lib.strCells ⟨l.toArray⟩ = Lib.byteCells l := by simp [Lib.strCells, Lib.byteCells]
theorem unS_lt {n : Int} (h : nuOK n = true) : unS n < 4611686018427387904 := by
  simp [nuOK] at h
  unfold unS
  split <;> omega
/-- Blocks that hold no bytes stay as they are. -/
def KeepB (w w' : World) : Prop := ∀ (Q : Nat) (cs : Array Value) (t : TypeId), t ≠ 5 → w.heap[Q]? = some (Obj.cells cs t) → w'.heap[Q]? = some (Obj.cells cs t)
theorem KeepB.refl (w : World) : KeepB w w := fun _ _ _ _ h => h
theorem KeepB.trans {a b c : World} (h : KeepB a b) (k : KeepB b c) : KeepB a c := fun Q cs t ht hq => k Q cs t ht (h Q cs t ht hq)
theorem KeepB.of {w w' : World} (h : Below w.heap.size w w') : KeepB w w' := fun Q cs t _ hq => blko hq h
theorem KeepB.grown {w w' : World} {base n : Nat} {v : Value} {ys : List Value} (ho : w.ownsRow base 5 1 v n ys) (hg : w.grownBy w' v.ownBlock) : KeepB w w' := fun Q cs t ht hq => box_grown hq (Below.refl _ _) hg (fun e => by
  obtain ⟨_, cur, hc⟩ := own_blk ho e
  exact blk_ne hc hq (Ne.symm ht) rfl)
set_option maxHeartbeats 2000000 in
/-- spec's l06PutText onto a row of one's own. -/
theorem putText_any (base n : Nat) (v : Value) (M t : List UInt8) (w : World) (hM : M.length = n) (hn : n ≤ 2000000000000) (ht : t.length ≤ 65536) (h : w.ownsRow base 5 1 v n (Lib.byteCells M)) (hb : base ≤ w.heap.size) :
    Calls Tryd.prog 49 #[v, .string ⟨t.toArray⟩] w fun e w' => ∃ v', e = .returned v' ∧ w'.ownsRow base 5 1 v' (M ++ txB t).length (Lib.byteCells (M ++ txB t)) ∧ Below base w w' ∧ KeepB w w' := by
  obtain ⟨i1, hi1, hy0, hy1, hy2⟩ := info_parts Tryd.infoByte
  have HO := hidd h
  have hsl : (⟨t.toArray⟩ : ByteArray).size = t.length := by rw [Lib.size_eq]
  have HP := hidd (specPut_any t.length w (by omega))
  have hpl := putL_length9 t.length (by omega)
  have Hlen : Hid ((M ++ txB t).length = n + (putL t.length).length + t.length) := by show _ = _; simp [txB, hM]; omega
  clear h hM
  go_enter Tryd.func49, Tryd.ntmps49
  go_wp2_with fail
  refine HP.out.mono ?_
  rintro e w1 ⟨gp, cp, rfl, hop, hb1⟩
  have HB1 := hidd hb1
  have HO1 := hidd (own_below HO.out hb1)
  have HBy := hidd (own_bytes hop rfl)
  have hp1 : 0 < (putL t.length).length := putL_pos _
  generalize hPR : putL t.length = PR at *
  have HPR := hidd hPR
  clear hPR
  have hz1 := hb1.size
  clear hop hb1 HP HO
  dsimp only
  go_wp2_with (at_builtin; refine wpList_append_lies _ rfl (.tmp 5) (.tmp 8) 22 rfl base 5 i1 (.int .u8 0) 1 1 Tryd.underlying22 hi1 hy0 hy1 hy2 rfl (by decide) v n (Lib.byteCells M) rfl HO1.out ⟨gp, 0, none⟩ PR.length cp (Lib.byteCells PR) rfl (by simp [Lib.byteCells]) (bytes_news HBy.out (Below.refl _ _)) (bytes_one _) hp1 (by unfold maxLen; omega) (by omega) (by omega) _ rfl ?_)
  intro g6 cp6 w6 hown6 hgrow6 hat6 hlt6
  have HO6 := hidd hown6
  have HB6 : Hid (Below base w w6) := (HB1.out.mono hb).grown hgrow6 (by omega) (fun k hk => (HO1.out.lt k hk).1)
  have HK6 : Hid (KeepB w w6) := (KeepB.of HB1.out).trans (.grown HO1.out hgrow6)
  have hz6 := hgrow6.size
  clear hown6 hgrow6 hat6 hlt6
  go_wp2_with (at_builtin; refine Lib.wpList_append_own_string _ rfl (.tmp 9) (.tmp 10) 22 9 rfl base 5 i1 Tryd.underlying22 Tryd.underlying9 hi1 hy0 hy1 hy2 (.slice (some ⟨g6, 0, none⟩) (n + PR.length) cp6) (n + PR.length) (Lib.byteCells M ++ Lib.byteCells PR) rfl HO6.out ⟨t.toArray⟩ rfl (by rw [hsl]; unfold maxLen; omega) (by rw [hsl]; omega) (by omega) ?_)
  intro v7 w7 hown7 hgrow7 hnil7
  rw [strCells_eq] at hown7
  have HO7 := hidd hown7
  have HB7 : Hid (Below base w w7) := HB6.out.grown hgrow7 (by omega) (fun k hk => (HO6.out.lt k hk).1)
  have HK7 : Hid (KeepB w w7) := HK6.out.trans (.grown HO6.out hgrow7)
  clear hown7 hgrow7 hnil7
  go_wp2_with fail
  go_ret
  refine ⟨v7, rfl, ?_, HB7.out, HK7.out⟩
  have e : Lib.byteCells (M ++ txB t) = Lib.byteCells M ++ (Lib.byteCells PR ++ Lib.byteCells t) := by
    rw [txB, HPR.out, Lib.byteCells_append, Lib.byteCells_append]
  rw [Hlen.out, e]
  exact HO7.out
set_option maxHeartbeats 2000000 in
/-- spec's l06PutNumber onto a row of one's own. -/
theorem putNumber_any (base n : Nat) (v : Value) (M : List UInt8) (z : Int) (w : World) (hM : M.length = n) (hn : n ≤ 2000000000000) (hz : nuOK z = true) (h : w.ownsRow base 5 1 v n (Lib.byteCells M)) (hb : base ≤ w.heap.size) :
    Calls Tryd.prog 50 #[v, .int .i64 z] w fun e w' => ∃ v', e = .returned v' ∧ w'.ownsRow base 5 1 v' (M ++ nuB z).length (Lib.byteCells (M ++ nuB z)) ∧ Below base w w' ∧ KeepB w w' := by
  obtain ⟨i1, hi1, hy0, hy1, hy2⟩ := info_parts Tryd.infoByte
  have HO := hidd h
  have HP := hidd (specPut_any (unS z) w (unS_lt hz))
  have hpl := putL_length9 (unS z) (unS_lt hz)
  have hp1 : 0 < (putL (unS z)).length := putL_pos _
  have Hlen : Hid ((M ++ nuB z).length = n + (putL (unS z)).length) := by show _ = _; simp [nuB, hM]
  have He : Hid (Lib.byteCells (M ++ nuB z) = Lib.byteCells M ++ Lib.byteCells (putL (unS z))) := by show _ = _; rw [nuB, Lib.byteCells_append]
  simp [nuOK] at hz
  have hU : ((unS z : Nat) : Int) = if z < 0 then -2 * z - 1 else 2 * z := by unfold unS; split <;> omega
  clear h hM
  generalize putL (unS z) = PR at *
  rw [hU] at HP
  clear hU
  go_enter Tryd.func50, Tryd.ntmps50
  by_cases hz0 : z < 0
  · rw [if_pos hz0] at HP
    go_wp2_with fail
    refine HP.out.mono ?_
    rintro e w1 ⟨gp, cp, rfl, hop, hb1⟩
    have HB1 := hidd hb1
    have HO1 := hidd (own_below HO.out hb1)
    have HBy := hidd (own_bytes hop rfl)
    have hz1 := hb1.size
    clear hop hb1 HP HO
    dsimp only
    go_wp2_with (at_builtin; refine wpList_append_lies _ rfl (.tmp 7) (.tmp 11) 22 rfl base 5 i1 (.int .u8 0) 1 1 Tryd.underlying22 hi1 hy0 hy1 hy2 rfl (by decide) v n (Lib.byteCells M) rfl HO1.out ⟨gp, 0, none⟩ PR.length cp (Lib.byteCells PR) rfl (by simp [Lib.byteCells]) (bytes_news HBy.out (Below.refl _ _)) (bytes_one _) hp1 (by unfold maxLen; omega) (by omega) (by omega) _ rfl ?_)
    intro g6 cp6 w6 hown6 hgrow6 hat6 hlt6
    have HO6 := hidd hown6
    have HB6 : Hid (Below base w w6) := (HB1.out.mono hb).grown hgrow6 (by omega) (fun k hk => (HO1.out.lt k hk).1)
    have HK6 : Hid (KeepB w w6) := (KeepB.of HB1.out).trans (.grown HO1.out hgrow6)
    clear hown6 hgrow6 hat6 hlt6
    go_wp2_with fail
    go_ret
    exact ⟨_, rfl, by rw [Hlen.out, He.out]; exact HO6.out, HB6.out, HK6.out⟩
  · rw [if_neg hz0] at HP
    go_wp2_with fail
    refine HP.out.mono ?_
    rintro e w1 ⟨gp, cp, rfl, hop, hb1⟩
    have HB1 := hidd hb1
    have HO1 := hidd (own_below HO.out hb1)
    have HBy := hidd (own_bytes hop rfl)
    have hz1 := hb1.size
    clear hop hb1 HP HO
    dsimp only
    go_wp2_with (at_builtin; refine wpList_append_lies _ rfl (.tmp 13) (.tmp 16) 22 rfl base 5 i1 (.int .u8 0) 1 1 Tryd.underlying22 hi1 hy0 hy1 hy2 rfl (by decide) v n (Lib.byteCells M) rfl HO1.out ⟨gp, 0, none⟩ PR.length cp (Lib.byteCells PR) rfl (by simp [Lib.byteCells]) (bytes_news HBy.out (Below.refl _ _)) (bytes_one _) hp1 (by unfold maxLen; omega) (by omega) (by omega) _ rfl ?_)
    intro g6 cp6 w6 hown6 hgrow6 hat6 hlt6
    have HO6 := hidd hown6
    have HB6 : Hid (Below base w w6) := (HB1.out.mono hb).grown hgrow6 (by omega) (fun k hk => (HO1.out.lt k hk).1)
    have HK6 : Hid (KeepB w w6) := (KeepB.of HB1.out).trans (.grown HO1.out hgrow6)
    clear hown6 hgrow6 hat6 hlt6
    go_wp2_with fail
    go_ret
    exact ⟨_, rfl, by rw [Hlen.out, He.out]; exact HO6.out, HB6.out, HK6.out⟩
end Go.Proofs.YtefhmbnhhkgifaaDoor

namespace Go.Proofs.YtefhmbnhhkgifaaDoor
open Go

def bs (l : List UInt8) : ByteArray := ⟨l.toArray⟩
def lst (s : ByteArray) : List UInt8 := s.data.toList
theorem bs_lst (s : ByteArray) : bs (lst s) = s := by simp [bs, lst]
theorem lst_bs (l : List UInt8) : lst (bs l) = l := by simp [bs, lst]
theorem lst_len (s : ByteArray) : (lst s).length = s.size := (Lib.size_eq s).symm
theorem bs_size (l : List UInt8) : (bs l).size = l.length := by rw [← lst_len, lst_bs]

def vow (c : UInt8) : Bool := c == 97 || c == 101 || c == 105 || c == 111 || c == 117 || c == 121
def hasV (l : List UInt8) : Bool := l.any vow
def ends (l e : List UInt8) : Bool := Lib.hasSuffix l e
def cutB (l : List UInt8) (n : Nat) : List UInt8 := l.take (l.length - n)
def lastB (l : List UInt8) (n : Nat) : UInt8 := l.getD (l.length - n) 0
def stem1 (l : List UInt8) : List UInt8 :=
  if ends l [115, 115, 101, 115] then cutB l 2
  else if ends l [105, 101, 115] then (if 5 ≤ l.length then cutB l 3 ++ [121] else l)
  else if ends l [115] && !ends l [115, 115] && !ends l [117, 115] && !ends l [105, 115] && decide (4 ≤ l.length) then cutB l 1 else l
def alike (l : List UInt8) : Bool := decide (2 ≤ l.length) && lastB l 1 == lastB l 2 && !vow (lastB l 1) && lastB l 1 != 108 && lastB l 1 != 115 && lastB l 1 != 122
def mend (l : List UInt8) : List UInt8 :=
  if alike l then cutB l 1 else if ends l [97, 116] || ends l [98, 108] || ends l [105, 122] then l ++ [101] else l
def stem2 (l : List UInt8) : List UInt8 :=
  if ends l [105, 110, 103] && decide (6 ≤ l.length) && hasV (cutB l 3) then mend (cutB l 3)
  else if ends l [101, 100] && decide (5 ≤ l.length) && hasV (cutB l 2) then mend (cutB l 2) else l
def stem3 (l : List UInt8) : List UInt8 := if ends l [108, 121] && decide (5 ≤ l.length) then cutB l 2 else l
def stem4 (l : List UInt8) : List UInt8 := if ends l [121] && decide (3 ≤ l.length) && !vow (lastB l 2) then cutB l 1 ++ [105] else l
def small (c : UInt8) : Bool := decide (97 ≤ c.toNat ∧ c.toNat ≤ 122)
def stemW (l : List UInt8) : List UInt8 :=
  if 65536 < l.length then [] else if l.length < 3 ∨ 64 < l.length then l else if l.all small = true then stem4 (stem3 (stem2 (stem1 l))) else l

theorem ends_len {l e : List UInt8} (h : ends l e = true) : e.length ≤ l.length := by
  have : e <:+ l := List.isSuffixOf_iff_suffix.1 h
  exact this.length_le
theorem ends_split {l e : List UInt8} (h : ends l e = true) : l = cutB l e.length ++ e := by
  obtain ⟨t, rfl⟩ := List.isSuffixOf_iff_suffix.1 h
  simp [cutB]
theorem cutB_len (l : List UInt8) (n : Nat) : (cutB l n).length = l.length - n := by simp [cutB]
theorem ends_append (t e : List UInt8) : ends (t ++ e) e = true := List.isSuffixOf_iff_suffix.2 ⟨t, rfl⟩
theorem cutB_append (t e : List UInt8) : cutB (t ++ e) e.length = t := by simp [cutB]
theorem stem1_le (l : List UInt8) : (stem1 l).length ≤ l.length := by
  unfold stem1
  split
  · rw [cutB_len]; omega
  · split
    · split
      · rw [List.length_append, cutB_len]; simp; omega
      · exact Nat.le_refl _
    · split
      · rw [cutB_len]; omega
      · exact Nat.le_refl _
theorem mend_le (l : List UInt8) : (mend l).length ≤ l.length + 1 := by
  unfold mend
  split
  · rw [cutB_len]; omega
  · split
    · simp
    · omega
theorem stem2_le (l : List UInt8) : (stem2 l).length ≤ l.length := by
  unfold stem2
  split
  · rename_i h
    simp only [Bool.and_eq_true, decide_eq_true_eq] at h
    have := mend_le (cutB l 3)
    rw [cutB_len] at this; omega
  · split
    · rename_i h
      simp only [Bool.and_eq_true, decide_eq_true_eq] at h
      have := mend_le (cutB l 2)
      rw [cutB_len] at this; omega
    · exact Nat.le_refl _
theorem stem3_le (l : List UInt8) : (stem3 l).length ≤ l.length := by
  unfold stem3
  split
  · rw [cutB_len]; omega
  · exact Nat.le_refl _
theorem stem4_le (l : List UInt8) : (stem4 l).length ≤ l.length := by
  unfold stem4
  split
  · rename_i h
    simp only [Bool.and_eq_true, decide_eq_true_eq] at h
    rw [List.length_append, cutB_len]; simp; omega
  · exact Nat.le_refl _
end Go.Proofs.YtefhmbnhhkgifaaDoor
