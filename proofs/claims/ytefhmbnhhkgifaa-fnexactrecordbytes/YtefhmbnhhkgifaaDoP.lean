import Derived.Test.YtefhmbnhhkgifaaPkB1
import Derived.Test.YtefhmbnhhkgifaaHpA
import Derived.Test.YtefhmbnhhkgifaaRbA
import Derived.Test.YtefhmbnhhkgifaaRbA
import Derived.Lib.AppendStr
import Derived.Deep.CutBlock
namespace Go.Proofs.Ytefhmbnhhkgifaa
open Go Go.RowKit
set_option linter.unusedVariables false
set_option maxRecDepth 100000

/-! Documents, in plain words: an id, values with a field, texts and numbers. -/
abbrev Vl := List UInt8 × List (List UInt8) × List Int
abbrev Dc := List UInt8 × List Vl
def vl0 : Vl := ([], [], [])
def txB (t : List UInt8) : List UInt8 := putL t.length ++ t
def unS (n : Int) : Nat := if n < 0 then (-2 * n - 1).toNat else (2 * n).toNat
def nuB (n : Int) : List UInt8 := putL (unS n)
def vlB (v : Vl) : List UInt8 := txB v.1 ++ putL v.2.1.length ++ v.2.1.flatMap txB ++ putL v.2.2.length ++ v.2.2.flatMap nuB
def dcB (d : Dc) : List UInt8 := txB d.1 ++ putL d.2.length ++ d.2.flatMap vlB
def txOK (t : List UInt8) : Bool := decide (t.length ≤ 65536)
def nuOK (n : Int) : Bool := decide (-1000000000000 ≤ n ∧ n ≤ 1000000000000)
def vlOK (v : Vl) : Bool := decide (v.1.length ≤ 65536 ∧ v.2.1.length ≤ 4096 ∧ v.2.2.length ≤ 4096) && v.2.1.all txOK && v.2.2.all nuOK
def dcOK (d : Dc) : Bool := decide (d.1.length ≤ 65536 ∧ d.2.length ≤ 4096) && d.2.all vlOK
/-- What DocBytes tells. -/
def docO (d : Dc) : List UInt8 × Int := if dcOK d then (dcB d, 0) else ([], 12)
/-- Texts, numbers, values, as they lie in a world. -/
def HoldTx (w : World) (a : Option Addr) (l : List (List UInt8)) : Prop := l = [] ∨ ∃ b off, a = some ⟨b, off, none⟩ ∧ b < w.heap.size ∧ ∀ i, i < l.length → w.cell? ⟨b, off + i, none⟩ = some (.string ⟨(l.getD i []).toArray⟩)
def HoldZ (w : World) (a : Option Addr) (l : List Int) : Prop := l = [] ∨ ∃ b off, a = some ⟨b, off, none⟩ ∧ b < w.heap.size ∧ ∀ i, i < l.length → w.cell? ⟨b, off + i, none⟩ = some (.int .i64 (l.getD i 0))
def HoldV (w : World) (a : Option Addr) (V : List Vl) : Prop := V = [] ∨ ∃ b off, a = some ⟨b, off, none⟩ ∧ b < w.heap.size ∧ ∀ i, i < V.length → w.cell? ⟨b, off + i * 3, none⟩ = some (.string ⟨(V.getD i vl0).1.toArray⟩) ∧
  (∃ at_ ct, w.cell? ⟨b, off + i * 3 + 1, none⟩ = some (.slice at_ (V.getD i vl0).2.1.length ct) ∧ HoldTx w at_ (V.getD i vl0).2.1) ∧ ∃ an cn, w.cell? ⟨b, off + i * 3 + 2, none⟩ = some (.slice an (V.getD i vl0).2.2.length cn) ∧ HoldZ w an (V.getD i vl0).2.2
theorem HoldTx.below {w w' : World} {a : Option Addr} {l : List (List UInt8)} (h : HoldTx w a l) (hb : Below w.heap.size w w') : HoldTx w' a l := by
  rcases h with h | ⟨b, off, ha, hbl, h⟩
  · exact Or.inl h
  · exact Or.inr ⟨b, off, ha, Nat.lt_of_lt_of_le hbl hb.size, fun i hi => (hb.cell (p := ⟨b, off + i, none⟩) hbl).trans (h i hi)⟩
theorem HoldZ.below {w w' : World} {a : Option Addr} {l : List Int} (h : HoldZ w a l) (hb : Below w.heap.size w w') : HoldZ w' a l := by
  rcases h with h | ⟨b, off, ha, hbl, h⟩
  · exact Or.inl h
  · exact Or.inr ⟨b, off, ha, Nat.lt_of_lt_of_le hbl hb.size, fun i hi => (hb.cell (p := ⟨b, off + i, none⟩) hbl).trans (h i hi)⟩
theorem HoldV.below {w w' : World} {a : Option Addr} {V : List Vl} (h : HoldV w a V) (hb : Below w.heap.size w w') : HoldV w' a V := by
  rcases h with h | ⟨b, off, ha, hbl, h⟩
  · exact Or.inl h
  · refine Or.inr ⟨b, off, ha, Nat.lt_of_lt_of_le hbl hb.size, fun i hi => ?_⟩
    obtain ⟨h1, ⟨at_, ct, h2, h3⟩, an, cn, h4, h5⟩ := h i hi
    exact ⟨(hb.cell (p := ⟨b, off + i * 3, none⟩) hbl).trans h1, ⟨at_, ct, (hb.cell (p := ⟨b, off + i * 3 + 1, none⟩) hbl).trans h2, h3.below hb⟩, an, cn, (hb.cell (p := ⟨b, off + i * 3 + 2, none⟩) hbl).trans h4, h5.below hb⟩
theorem strCells_eq (l : List UInt8) : Lib.strCells ⟨l.toArray⟩ = Lib.byteCells l := by simp [Lib.strCells, Lib.byteCells]
theorem unS_lt {n : Int} (h : nuOK n = true) : unS n < 4611686018427387904 := by
  simp [nuOK] at h
  unfold unS
  split <;> omega
/-- Blocks that hold no bytes stay as they are. -/
def KeepB (w w' : World) : Prop := ∀ (Q : Nat) (cs : Array Value) (t : TypeId), t ≠ 5 → w.heap[Q]? = some (Obj.cells cs t) → w'.heap[Q]? = some (Obj.cells cs t)
theorem KeepB.refl (w : World) : KeepB w w := fun _ _ _ _ h => h
theorem KeepB.trans {a b c : World} (h : KeepB a b) (k : KeepB b c) : KeepB a c := fun Q cs t ht hq => k Q cs t ht (h Q cs t ht hq)
theorem KeepB.of {w w' : World} (h : Below w.heap.size w w') : KeepB w w' := fun Q cs t _ hq => blko hq h
theorem KeepB.grown {w w' : World} {base n : Nat} {v : Value} {ys : List Value} (ho : w.ownsRow base 5 1 v n ys) (hg : w.grownBy w' v.ownBlock) : KeepB w w' := fun Q cs t ht hq => box_grown hq (Below.refl _ _) hg (fun e => by
  obtain ⟨_, cur, hc⟩ := own_blk ho e
  exact blk_ne hc hq (Ne.symm ht) rfl)
set_option maxHeartbeats 2000000 in
/-- spec's l06PutText onto a row of one's own. -/
theorem putText_any (base n : Nat) (v : Value) (M t : List UInt8) (w : World) (hM : M.length = n) (hn : n ≤ 2000000000000) (ht : t.length ≤ 65536) (h : w.ownsRow base 5 1 v n (Lib.byteCells M)) (hb : base ≤ w.heap.size) :
    Calls Try.prog 43 #[v, .string ⟨t.toArray⟩] w fun e w' => ∃ v', e = .returned v' ∧ w'.ownsRow base 5 1 v' (M ++ txB t).length (Lib.byteCells (M ++ txB t)) ∧ Below base w w' ∧ KeepB w w' := by
  obtain ⟨i1, hi1, hy0, hy1, hy2⟩ := info_parts Try.infoByte
  have HO := hidd h
  have hsl : (⟨t.toArray⟩ : ByteArray).size = t.length := by rw [Lib.size_eq]
  have HP := hidd (specPut_any t.length w (by omega))
  have hpl := putL_length9 t.length (by omega)
  have Hlen : Hid ((M ++ txB t).length = n + (putL t.length).length + t.length) := by show _ = _; simp [txB, hM]; omega
  clear h hM
  go_enter Try.func43, Try.ntmps43
  go_wp2_with fail
  refine HP.out.mono ?_
  rintro e w1 ⟨gp, cp, rfl, hop, hb1⟩
  have HB1 := hidd hb1
  have HO1 := hidd (own_below HO.out hb1)
  have HBy := hidd (own_bytes hop rfl)
  have hp1 : 0 < (putL t.length).length := putL_pos _
  generalize hPR : putL t.length = PR at *
  have HPR := hidd hPR
  clear hPR
  have hz1 := hb1.size
  clear hop hb1 HP HO
  dsimp only
  go_wp2_with (at_builtin; refine wpList_append_lies _ rfl (.tmp 5) (.tmp 8) 28 rfl base 5 i1 (.int .u8 0) 1 1 Try.underlying28 hi1 hy0 hy1 hy2 rfl (by decide) v n (Lib.byteCells M) rfl HO1.out ⟨gp, 0, none⟩ PR.length cp (Lib.byteCells PR) rfl (by simp [Lib.byteCells]) (bytes_news HBy.out (Below.refl _ _)) (bytes_one _) hp1 (by unfold maxLen; omega) (by omega) (by omega) _ rfl ?_)
  intro g6 cp6 w6 hown6 hgrow6 hat6 hlt6
  have HO6 := hidd hown6
  have HB6 : Hid (Below base w w6) := (HB1.out.mono hb).grown hgrow6 (by omega) (fun k hk => (HO1.out.lt k hk).1)
  have HK6 : Hid (KeepB w w6) := (KeepB.of HB1.out).trans (.grown HO1.out hgrow6)
  have hz6 := hgrow6.size
  clear hown6 hgrow6 hat6 hlt6
  go_wp2_with (at_builtin; refine Lib.wpList_append_own_string _ rfl (.tmp 9) (.tmp 10) 28 9 rfl base 5 i1 Try.underlying28 Try.underlying9 hi1 hy0 hy1 hy2 (.slice (some ⟨g6, 0, none⟩) (n + PR.length) cp6) (n + PR.length) (Lib.byteCells M ++ Lib.byteCells PR) rfl HO6.out ⟨t.toArray⟩ rfl (by rw [hsl]; unfold maxLen; omega) (by rw [hsl]; omega) (by omega) ?_)
  intro v7 w7 hown7 hgrow7 hnil7
  rw [strCells_eq] at hown7
  have HO7 := hidd hown7
  have HB7 : Hid (Below base w w7) := HB6.out.grown hgrow7 (by omega) (fun k hk => (HO6.out.lt k hk).1)
  have HK7 : Hid (KeepB w w7) := HK6.out.trans (.grown HO6.out hgrow7)
  clear hown7 hgrow7 hnil7
  go_wp2_with fail
  go_ret
  refine ⟨v7, rfl, ?_, HB7.out, HK7.out⟩
  have e : Lib.byteCells (M ++ txB t) = Lib.byteCells M ++ (Lib.byteCells PR ++ Lib.byteCells t) := by
    rw [txB, HPR.out, Lib.byteCells_append, Lib.byteCells_append]
  rw [Hlen.out, e]
  exact HO7.out
set_option maxHeartbeats 2000000 in
/-- spec's l06PutNumber onto a row of one's own. -/
theorem putNumber_any (base n : Nat) (v : Value) (M : List UInt8) (z : Int) (w : World) (hM : M.length = n) (hn : n ≤ 2000000000000) (hz : nuOK z = true) (h : w.ownsRow base 5 1 v n (Lib.byteCells M)) (hb : base ≤ w.heap.size) :
    Calls Try.prog 44 #[v, .int .i64 z] w fun e w' => ∃ v', e = .returned v' ∧ w'.ownsRow base 5 1 v' (M ++ nuB z).length (Lib.byteCells (M ++ nuB z)) ∧ Below base w w' ∧ KeepB w w' := by
  obtain ⟨i1, hi1, hy0, hy1, hy2⟩ := info_parts Try.infoByte
  have HO := hidd h
  have HP := hidd (specPut_any (unS z) w (unS_lt hz))
  have hpl := putL_length9 (unS z) (unS_lt hz)
  have hp1 : 0 < (putL (unS z)).length := putL_pos _
  have Hlen : Hid ((M ++ nuB z).length = n + (putL (unS z)).length) := by show _ = _; simp [nuB, hM]
  have He : Hid (Lib.byteCells (M ++ nuB z) = Lib.byteCells M ++ Lib.byteCells (putL (unS z))) := by show _ = _; rw [nuB, Lib.byteCells_append]
  simp [nuOK] at hz
  have hU : ((unS z : Nat) : Int) = if z < 0 then -2 * z - 1 else 2 * z := by unfold unS; split <;> omega
  clear h hM
  generalize putL (unS z) = PR at *
  rw [hU] at HP
  clear hU
  go_enter Try.func44, Try.ntmps44
  by_cases hz0 : z < 0
  · rw [if_pos hz0] at HP
    go_wp2_with fail
    refine HP.out.mono ?_
    rintro e w1 ⟨gp, cp, rfl, hop, hb1⟩
    have HB1 := hidd hb1
    have HO1 := hidd (own_below HO.out hb1)
    have HBy := hidd (own_bytes hop rfl)
    have hz1 := hb1.size
    clear hop hb1 HP HO
    dsimp only
    go_wp2_with (at_builtin; refine wpList_append_lies _ rfl (.tmp 7) (.tmp 11) 28 rfl base 5 i1 (.int .u8 0) 1 1 Try.underlying28 hi1 hy0 hy1 hy2 rfl (by decide) v n (Lib.byteCells M) rfl HO1.out ⟨gp, 0, none⟩ PR.length cp (Lib.byteCells PR) rfl (by simp [Lib.byteCells]) (bytes_news HBy.out (Below.refl _ _)) (bytes_one _) hp1 (by unfold maxLen; omega) (by omega) (by omega) _ rfl ?_)
    intro g6 cp6 w6 hown6 hgrow6 hat6 hlt6
    have HO6 := hidd hown6
    have HB6 : Hid (Below base w w6) := (HB1.out.mono hb).grown hgrow6 (by omega) (fun k hk => (HO1.out.lt k hk).1)
    have HK6 : Hid (KeepB w w6) := (KeepB.of HB1.out).trans (.grown HO1.out hgrow6)
    clear hown6 hgrow6 hat6 hlt6
    go_wp2_with fail
    go_ret
    exact ⟨_, rfl, by rw [Hlen.out, He.out]; exact HO6.out, HB6.out, HK6.out⟩
  · rw [if_neg hz0] at HP
    go_wp2_with fail
    refine HP.out.mono ?_
    rintro e w1 ⟨gp, cp, rfl, hop, hb1⟩
    have HB1 := hidd hb1
    have HO1 := hidd (own_below HO.out hb1)
    have HBy := hidd (own_bytes hop rfl)
    have hz1 := hb1.size
    clear hop hb1 HP HO
    dsimp only
    go_wp2_with (at_builtin; refine wpList_append_lies _ rfl (.tmp 13) (.tmp 16) 28 rfl base 5 i1 (.int .u8 0) 1 1 Try.underlying28 hi1 hy0 hy1 hy2 rfl (by decide) v n (Lib.byteCells M) rfl HO1.out ⟨gp, 0, none⟩ PR.length cp (Lib.byteCells PR) rfl (by simp [Lib.byteCells]) (bytes_news HBy.out (Below.refl _ _)) (bytes_one _) hp1 (by unfold maxLen; omega) (by omega) (by omega) _ rfl ?_)
    intro g6 cp6 w6 hown6 hgrow6 hat6 hlt6
    have HO6 := hidd hown6
    have HB6 : Hid (Below base w w6) := (HB1.out.mono hb).grown hgrow6 (by omega) (fun k hk => (HO1.out.lt k hk).1)
    have HK6 : Hid (KeepB w w6) := (KeepB.of HB1.out).trans (.grown HO1.out hgrow6)
    clear hown6 hgrow6 hat6 hlt6
    go_wp2_with fail
    go_ret
    exact ⟨_, rfl, by rw [Hlen.out, He.out]; exact HO6.out, HB6.out, HK6.out⟩
end Go.Proofs.Ytefhmbnhhkgifaa
