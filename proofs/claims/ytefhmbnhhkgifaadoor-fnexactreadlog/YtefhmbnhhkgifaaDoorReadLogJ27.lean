import Derived.Test.YtefhmbnhhkgifaaDoorReadLogJ26
import Derived.Test.YtefhmbnhhkgifaaDoorReadLogJ24
import Derived.Test.YtefhmbnhhkgifaaDoorProg
import Derived.Test.YtefhmbnhhkgifaaDoorReadLogJ10
import Derived.Test.YtefhmbnhhkgifaaDoorReadLogJ00
namespace Go.Proofs.YtefhmbnhhkgifaaDoor
open Go Go.RowKit
set_option linter.unusedVariables false
set_option linter.unusedSimpArgs false
set_option maxRecDepth 100000

/-- What ReadDoc tells, by either side: the document and its code. -/
def rdAns (bs : List UInt8) : Dc × Int := match readO bs with
  | some d => (d, 0)
  | none => (([], []), 15)
def ReadP (w0 : World) (bs : List UInt8) (e : Ending) (w' : World) : Prop :=
  Below w0.heap.size w0 w' ∧ ∃ va xs lo, e = .returned (.tuple #[.agg #[.string ⟨(rdAns bs).1.1.toArray⟩, va], .int .i64 (rdAns bs).2]) ∧ w0.heap.size ≤ lo ∧ AnsV w' lo w'.heap.size va (rdAns bs).1.2 xs
theorem rdAns_ok {bs : List UInt8} {id : List UInt8} {V : List Vl} (h : rdD bs = some ((id, V), [])) : rdAns bs = ((id, V), 0) := by unfold rdAns readO; rw [h]
theorem rdAns_rest {bs r : List UInt8} {d : Dc} (h : rdD bs = some (d, r)) (hr : r ≠ []) : rdAns bs = (([], []), 15) := by
  unfold rdAns readO
  rw [h]
  cases r with
  | nil => exact absurd rfl hr
  | cons x t => rfl
theorem rdAns_no {bs : List UInt8} (h : rdD bs = none) : rdAns bs = (([], []), 15) := by unfold rdAns readO; rw [h]
end Go.Proofs.YtefhmbnhhkgifaaDoor

namespace Go.Proofs.YtefhmbnhhkgifaaDoor
open Go Go.RowKit
set_option linter.unusedVariables false
set_option linter.unusedSimpArgs false
set_option maxRecDepth 100000

set_option maxHeartbeats 4000000 in
theorem specRead_any {w0 : World} {b off c : Nat} {bs : List UInt8} (hn : bs.length ≤ 1048576) (hb : b < w0.heap.size) (hc : bs.length ≤ c) (hB : BytesAt w0 b off bs) :
    Calls Tryd.prog 19 #[.slice (some ⟨b, off, none⟩) bs.length c] w0 (ReadP w0 bs) := by
  have hnz : ¬ (bs.length : Int) > 1048576 := by omega
  go_enter Tryd.func19, Tryd.ntmps19
  go_upto_region 4 with fail
  have h2 := box_two w0 (.cells #[.string ⟨#[]⟩, .slice none 0 0] 34) (.cells #[.slice (some ⟨b, off, none⟩) bs.length c, .int .i64 0, .bool false] 69)
  have HB2 : Hid (Below w0.heap.size w0 ((w0.alloc (.cells #[.string ⟨#[]⟩, .slice none 0 0] 34)).alloc (.cells #[.slice (some ⟨b, off, none⟩) bs.length c, .int .i64 0, .bool false] 69))) := ((Below.refl _ _).alloc (Nat.le_refl _) _).alloc (by simp) _
  have hz2 : ((w0.alloc (.cells #[.string ⟨#[]⟩, .slice none 0 0] 34)).alloc (.cells #[.slice (some ⟨b, off, none⟩) bs.length c, .int .i64 0, .bool false] 69)).heap.size = w0.heap.size + 2 := by simp
  generalize (w0.alloc (.cells #[.string ⟨#[]⟩, .slice none 0 0] 34)).alloc (.cells #[.slice (some ⟨b, off, none⟩) bs.length c, .int .i64 0, .bool false] 69) = W at *
  have HS : Hid (SpAt w0 W (w0.heap.size + 1) b off c bs bs false) := ⟨HB2.out, by omega, hb, hB, hc, 0, Nat.zero_le _, by simp, h2.2⟩
  have HQ := hidd h2.1
  have HC := hidd (sdoc_any hn HS.out)
  clear h2 hB
  go_wp2_with fail
  refine HC.out.mono ?_
  rintro e w1 ⟨id, V, va, xs, r, bd, lo, rfl, hlo, hans, hsp, hf, hrel⟩
  obtain ⟨aA, cA, rfl⟩ := own_formR hans.row
  have hQ1 := (hf.2 w0.heap.size (by omega) (by omega)).trans HQ.out
  have hsz1 := hf.1
  have HAl := hidd ((Below.refl w1.heap.size w1).alloc (Nat.le_refl _) (.cells #[.string ⟨id.toArray⟩, .slice aA V.length cA] 34))
  have HX := hidd (heap_alloc_new w1 (.cells #[.string ⟨id.toArray⟩, .slice aA V.length cA] 34))
  have HAns := hidd hans
  have HSp := hidd hsp
  have HRel := hidd hrel
  have HQ1 := hidd hQ1
  clear hans hsp hrel hf hQ1 HC HS HQ
  dsimp only
  go_upto_region 5 with fail
  obtain ⟨w2, hw2⟩ : ∃ w2, w1.alloc (.cells #[.string ⟨id.toArray⟩, .slice aA V.length cA] 34) = w2 := ⟨_, rfl⟩
  rw [hw2] at HAl HX
  try rw [hw2]
  clear hw2
  have HS2 := hidd (HSp.out.below HAl.out)
  have HB3 := hidd HS2.out.old
  have kQ := blko HQ1.out HAl.out
  have kX := HX.out
  have hsz2 := HAl.out.size
  have HA2 : Hid (AnsV w2 lo w2.heap.size (.slice aA V.length cA) V xs) := (HAns.out.keep fun x _ h2 => HAl.out.block x h2).mono hsz2
  obtain ⟨k, hk1, hk2, kB⟩ := HS2.out.box
  have c0 := blkc kQ 0
  have c1 := blkc kQ 1
  have f0 := blkf kQ 0
  have f1 := blkf kQ 1
  have d0 := blkc kX 0
  have d1 := blkc kX 1
  have e1 := blkc kB 1
  have e2 := blkc kB 2
  simp only [List.getElem?_toArray, List.getElem?_cons_zero, List.getElem?_cons_succ] at c0 c1 d0 d1 e1 e2
  have HKQ := hidd kQ
  have hrl : r.length = bs.length - k := by rw [hk2, List.length_drop]
  clear kQ kX kB hk2 HQ1 HAns HAl HX HSp HS2
  have HBadP : Hid (rdAns bs = (([], []), 15) → ReadP w0 bs (.returned (.tuple #[.agg #[.string ⟨#[]⟩, .slice none 0 0], .int .i64 15])) ((w2.setCell ⟨w0.heap.size, 0, none⟩ (.string ⟨#[]⟩)).setCell ⟨w0.heap.size, 1, none⟩ (.slice none 0 0))) := fun hA => by
    refine ⟨(HB3.out.setCell (p := ⟨w0.heap.size, 0, none⟩) (Nat.le_refl _) _).setCell (p := ⟨w0.heap.size, 1, none⟩) (Nat.le_refl _) _, .slice none 0 0, [], w0.heap.size, ?_, Nat.le_refl _, ?_⟩
    · rw [hA]
    · rw [hA]
      exact AnsV.nil _ _ _
  have HXb := hidd (blk_set2 (x := .string ⟨#[]⟩) (y := .slice none 0 0) HKQ.out)
  cases bd with
  | true =>
    have hno : rdD bs = none := by
      rcases HRel.out with ⟨h, _⟩ | ⟨_, h⟩
      · cases h
      · exact h
    have HP := hidd (HBadP.out (rdAns_no hno))
    have z0 := blkc HXb.out 0
    have z1 := blkc HXb.out 1
    clear hno HBadP HRel hrl
    go_wp2_with fail
    refine bodyPost_ret (v := .tuple #[.agg #[.string ⟨#[]⟩, .slice none 0 0], .int .i64 15]) (by simp [results, Tryd.results19, go_sem, z0, z1]) rfl ?_
    exact HP.out
  | false =>
    have hyes : rdD bs = some ((id, V), r) := by
      rcases HRel.out with ⟨_, h⟩ | ⟨h, _⟩
      · exact h
      · cases h
    by_cases hke : k = bs.length
    · have hr0 : r = [] := List.length_eq_zero_iff.1 (by omega)
      subst hr0
      have hkz : ((k : Int) != (bs.length : Int)) = false := by simp [hke]
      have HAn := hidd (rdAns_ok hyes)
      have HP : Hid (ReadP w0 bs (.returned (.tuple #[.agg #[.string ⟨id.toArray⟩, .slice aA V.length cA], .int .i64 0])) ((w2.setCell ⟨w0.heap.size, 0, none⟩ (.string ⟨id.toArray⟩)).setCell ⟨w0.heap.size, 1, none⟩ (.slice aA V.length cA))) := by
        refine ⟨(HB3.out.setCell (p := ⟨w0.heap.size, 0, none⟩) (Nat.le_refl _) _).setCell (p := ⟨w0.heap.size, 1, none⟩) (Nat.le_refl _) _, .slice aA V.length cA, xs, lo, ?_, by omega, ?_⟩
        · rw [HAn.out]
        · rw [HAn.out]
          refine (HA2.out.keep fun x h1 h2 => ?_).mono (by simp)
          rw [heap_set_other _ _ _ _ _ (by omega), heap_set_other _ _ _ _ _ (by omega)]
      have HX := hidd (blk_set2 (x := .string ⟨id.toArray⟩) (y := .slice aA V.length cA) HKQ.out)
      have z0 := blkc HX.out 0
      have z1 := blkc HX.out 1
      have Hke := hidd hke
      clear hke hyes HBadP HRel hrl
      go_wp2_with fail
      refine bodyPost_ret (v := .tuple #[.agg #[.string ⟨id.toArray⟩, .slice aA V.length cA], .int .i64 0]) (by simp [results, Tryd.results19, go_sem, z0, z1]) rfl ?_
      exact HP.out
    · have hr0 : r ≠ [] := fun h => by rw [h] at hrl; simp at hrl; omega
      have hkz : ((k : Int) != (bs.length : Int)) = true := by rw [bne_iff_ne]; omega
      have HP := hidd (HBadP.out (rdAns_rest hyes hr0))
      have z0 := blkc HXb.out 0
      have z1 := blkc HXb.out 1
      clear hke hyes HBadP HRel hrl hr0
      go_wp2_with fail
      refine bodyPost_ret (v := .tuple #[.agg #[.string ⟨#[]⟩, .slice none 0 0], .int .i64 15]) (by simp [results, Tryd.results19, go_sem, z0, z1]) rfl ?_
      exact HP.out
end Go.Proofs.YtefhmbnhhkgifaaDoor

namespace Go.Proofs.YtefhmbnhhkgifaaDoor
open Go Go.RowKit
set_option linter.unusedVariables false

/-- A row of texts, as cells. -/
def sCells (l : List (List UInt8)) : List Value := l.map fun t => Value.string (bs t)
theorem sCells_len (l : List (List UInt8)) : (sCells l).length = l.length := by simp [sCells]
theorem sCells_snoc (l : List (List UInt8)) (t : List UInt8) : sCells (l ++ [t]) = sCells l ++ [.string (bs t)] := by simp [sCells]
theorem sCells_at (l : List (List UInt8)) (k : Nat) (h : k < l.length) : (sCells l)[k]? = some (.string (bs (l.getD k []))) := by
  simp [sCells, h]
theorem ownS_cells {w : World} {base e g cap : Nat} {l : List (List UInt8)} (h : w.ownsRow base e 1 (.slice (some ⟨g, 0, none⟩) l.length cap) l.length (sCells l)) :
    ∀ t, t < l.length → w.cell? ⟨g, t, none⟩ = some (.string (bs (l.getD t []))) := by
  intro t ht
  rw [h.cellAt t (by omega), sCells_at l t ht]

end Go.Proofs.YtefhmbnhhkgifaaDoor
