import Derived.Test.YtanolccfmpbjgalDfGK
import Derived.Test.YtanolccfmpbjgalDictOKJ12
namespace Go.Proofs.Ytanolccfmpbjgal
open Go Go.RowKit
set_option linter.unusedVariables false
set_option maxRecDepth 100000

/-- The terms of a dictionary, if it is one. -/
noncomputable def dictT (c : Int) (S : List St) : Option (List Tx) := @dite _ (∃ ts, IsDict (c, S) ts) (Classical.propDecidable _) (fun h => some (Classical.choose h)) (fun _ => none)
theorem dictT_some {c : Int} {S : List St} {ts : List Tx} (h : IsDict (c, S) ts) : dictT c S = some ts := by
  have he : ∃ ts, IsDict (c, S) ts := ⟨ts, h⟩
  unfold dictT
  rw [dif_pos he, (Classical.choose_spec he).uniq h]
theorem dictT_none {c : Int} {S : List St} (h : ¬ ∃ ts, IsDict (c, S) ts) : dictT c S = none := by
  unfold dictT
  rw [dif_neg h]
theorem okD_cases (c : Int) (S : List St) : (okD c S = true ∧ ∃ ts, IsDict (c, S) ts) ∨ (okD c S = false ∧ ¬ ∃ ts, IsDict (c, S) ts) := by
  rcases Classical.em (∃ ts, IsDict (c, S) ts) with h | h
  · exact Or.inl ⟨okD_true h, h⟩
  · exact Or.inr ⟨okD_false h, h⟩
/-- What DictFind tells. -/
def findO (d : Option (List Tx)) (t : Tx) : Int × Int := if 65536 < t.length then (0, 2) else match d with
  | none => (0, 1)
  | some ts => if t ∈ ts then (((ts.idxOf t : Nat) : Int), 0) else (0, 8)
def FindC (fn : Nat) : Prop := ∀ (c : Int) (a : Option Addr) (cap : Nat) (S : List St) (t : Tx) (w : World), S.length ≤ 1048576 → (∀ i, (arcsAt S i).length ≤ 1048576) → HoldS w a S →
  Calls Try.prog fn #[.agg #[.int .i64 c, .slice a S.length cap], .string ⟨t.toArray⟩] w fun e w' => e = .returned (.tuple #[.int .i64 (findO (dictT c S) t).1, .int .i64 (findO (dictT c S) t).2]) ∧ Below w.heap.size w w'
theorem findO_long {d : Option (List Tx)} {t : Tx} (h : 65536 < t.length) : findO d t = (0, 2) := by unfold findO; rw [if_pos h]
theorem findO_none {t : Tx} (h : ¬ 65536 < t.length) : findO none t = (0, 1) := by rw [findO, if_neg h]
theorem findO_in {t : Tx} {ts : List Tx} (h : ¬ 65536 < t.length) (hm : t ∈ ts) : findO (some ts) t = (((ts.idxOf t : Nat) : Int), 0) := by rw [findO, if_neg h]; simp [hm]
theorem findO_out {t : Tx} {ts : List Tx} (h : ¬ 65536 < t.length) (hm : t ∉ ts) : findO (some ts) t = (0, 8) := by rw [findO, if_neg h]; simp [hm]
theorem lst_str (x y : Tx) : ((⟨x.toArray⟩ : ByteArray).toList == (⟨y.toArray⟩ : ByteArray).toList) = decide (x = y) := by
  rw [Lib.toList_data, Lib.toList_data]
  by_cases h : x = y <;> simp [h]

set_option maxHeartbeats 4000000 in
theorem specFind_any (hmake : ∀ (base bm bb : Nat) (aT : Option Addr) (cT : Nat) (ts : List Tx) (f : Nat), MakeC base bm bb aT cT ts (f + 1)) : FindC 14 := by
  intro c a cap S t w hn hA hS
  have HAll := hidd (fun W (hW : Below w.heap.size w W) => all_any hmake c a cap S W hn hA (hS.below hW))
  clear hmake hA hS
  have HBa : Hid (Below w.heap.size w (w.alloc (.cells #[.int .i64 c, .slice a S.length cap] 29))) := (Below.refl _ _).alloc (Nat.le_refl _) _
  have hsl : (⟨t.toArray⟩ : ByteArray).size = t.length := by rw [Lib.size_eq]
  go_enter Try.func14, Try.ntmps14
  by_cases hl : 65536 < t.length
  · have hlz : (t.length : Int) > 65536 := by omega
    have HF := hidd (findO_long (d := dictT c S) hl)
    go_wp2_with fail
    go_ret2
    exact ⟨by rw [HF.out]; rfl, HBa.out⟩
  have hlz : ¬ (t.length : Int) > 65536 := by omega
  go_wp2_with fail
  refine (HAll.out _ HBa.out).mono ?_
  rintro e w1 ⟨v, rfl, hb1, hown⟩
  have HB1 := hidd (HBa.out.trans (hb1.mono HBa.out.size))
  clear hb1
  dsimp only
  rcases okD_cases c S with ⟨hok, ts, hts⟩ | ⟨hok, hno⟩
  · rw [hok]
    have HD := hidd (dictT_some hts)
    obtain ⟨av, cv, rfl⟩ := own_form (hown ts hts)
    have HO := hidd (hown ts hts)
    have hfew : ts.length ≤ 4096 := hts.1.2.1
    clear hok hown hts
    go_wp2_with fail
    go_loopw [8] (fun kv wr => ∃ i : Nat, i ≤ ts.length ∧ kv = .int .i64 (i : Int) ∧ (∀ j, j < i → ts.getD j [] ≠ t) ∧ wr = w1) (fun kv _ => ts.length - (intOf kv).toNat)
    case atStart => exact ⟨0, Nat.zero_le _, rfl, fun j h => by omega, rfl⟩
    case round =>
      obtain ⟨i, hi, rfl, hno, hwr⟩ := hrel
      have HNo := hidd hno
      have hwr' := hwr.symm
      subst hwr'
      clear hno hwr
      by_cases hlt : i < ts.length
      · have hltz : (i : Int) < (ts.length : Int) := by omega
        rcases own_cases HO.out with ⟨_, h0⟩ | ⟨g, c', e1, _, hg⟩
        · omega
        simp only [Value.slice.injEq, true_and] at e1
        obtain ⟨rfl, rfl⟩ := e1
        have c1 : w1.cell? ⟨g, i, none⟩ = some (.string ⟨(ts.getD i []).toArray⟩) := (HO.out.cellAt i (by omega)).trans (by simp [tCells, txV, hlt])
        obtain ⟨x, hx⟩ : ∃ x, ts.getD i [] = x := ⟨_, rfl⟩
        rw [hx] at c1
        have Hx := hidd hx
        clear hx
        by_cases he : x = t
        · have heb : (x == t) = true := by simp [he]
          have HR : Hid (findO (dictT c S) t = ((i : Int), 0)) := by
            show _ = _
            have hm : t ∈ ts := by rw [← he, ← Hx.out, getD_at hlt]; exact List.getElem_mem hlt
            rw [HD.out, findO_in hl hm, idx_find hlt (Hx.out.trans he) HNo.out]
          clear he
          go_wp2_with fail
          go_ret2
          exact ⟨by rw [HR.out]; rfl, HB1.out⟩
        · have heb : (x == t) = false := beq_false_of_ne he
          have HN2 : Hid (∀ j, j < i + 1 → ts.getD j [] ≠ t) := fun j hj => by
            by_cases e : j = i
            · rw [e, Hx.out]; exact he
            · exact HNo.out j (by omega)
          go_wp2_with fail
          go_roundw
          case rel => exact ⟨i + 1, by omega, by go_num, HN2.out, by first | rfl | trivial⟩
          case measure => simp [intOf]; omega
      · have hltz : ¬ (i : Int) < (ts.length : Int) := by omega
        have HR : Hid (findO (dictT c S) t = (0, 8)) := by
          show _ = _
          rw [HD.out, findO_out hl (find_not fun j hj => HNo.out j (by omega))]
        go_wp2_with fail
        go_ret2
        exact ⟨by rw [HR.out]; rfl, HB1.out⟩
  · rw [hok]
    have HR : Hid (findO (dictT c S) t = (0, 1)) := by
      show _ = _
      rw [dictT_none hno, findO_none hl]
    clear hok hown hno
    go_wp2_with fail
    go_ret2
    exact ⟨by rw [HR.out]; rfl, HB1.out⟩
end Go.Proofs.Ytanolccfmpbjgal
