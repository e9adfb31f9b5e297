import Derived.Test.YtnekdkafhoacoaaDoorRqI
namespace Go.Proofs.YtnekdkafhoacoaaDoor
open Go Go.RowKit
set_option linter.unusedVariables false
set_option linter.unusedSimpArgs false
set_option maxRecDepth 100000

/-- What ReadDoc tells, by either side: the document and its code. -/
def rdAns (bs : List UInt8) : Dc × Int := match readO bs with
  | some d => (d, 0)
  | none => (([], []), 15)
def ReadP (w0 : World) (bs : List UInt8) (e : Ending) (w' : World) : Prop :=
  Below w0.heap.size w0 w' ∧ ∃ va xs lo, e = .returned (.tuple #[.agg #[.string ⟨(rdAns bs).1.1.toArray⟩, va], .int .i64 (rdAns bs).2]) ∧ w0.heap.size ≤ lo ∧ AnsV w' lo w'.heap.size va (rdAns bs).1.2 xs
theorem rdAns_ok {bs : List UInt8} {id : List UInt8} {V : List Vl} (h : rdD bs = some ((id, V), [])) : rdAns bs = ((id, V), 0) := by unfold rdAns readO; rw [h]
theorem rdAns_rest {bs r : List UInt8} {d : Dc} (h : rdD bs = some (d, r)) (hr : r ≠ []) : rdAns bs = (([], []), 15) := by
  unfold rdAns readO
  rw [h]
  cases r with
  | nil => exact absurd rfl hr
  | cons x t => rfl
theorem rdAns_no {bs : List UInt8} (h : rdD bs = none) : rdAns bs = (([], []), 15) := by unfold rdAns readO; rw [h]
set_option maxHeartbeats 4000000 in
theorem implRead_any {w0 : World} {u : TypeId} {pv : Value} {b off c : Nat} {bs : List UInt8} (hE : ErrC w0 u pv) (hn : bs.length ≤ 1048576) (hb : b < w0.heap.size) (hc : bs.length ≤ c) (hB : BytesAt w0 b off bs) :
    Calls Tryd.prog 12 #[.slice (some ⟨b, off, none⟩) bs.length c] w0 (ReadP w0 bs) := by
  have HBa := hidd ((Below.refl w0.heap.size w0).alloc (Nat.le_refl _) (.cells #[.string ⟨#[]⟩, .slice none 0 0] 36))
  have HQ := hidd (heap_alloc_new w0 (.cells #[.string ⟨#[]⟩, .slice none 0 0] 36))
  have HE := hidd hE
  have HBy := hidd hB
  clear hE hB
  have hnz : ¬ (bs.length : Int) > 1048576 := by omega
  go_enter Tryd.func12, Tryd.ntmps12
  go_upto_region 3 with fail
  obtain ⟨wa, hwa⟩ : ∃ wa, w0.alloc (.cells #[.string ⟨#[]⟩, .slice none 0 0] 36) = wa := ⟨_, rfl⟩
  rw [hwa] at HBa HQ
  try rw [hwa]
  clear hwa
  have hwz : w0.heap.size < wa.heap.size := (Array.getElem?_eq_some_iff.1 HQ.out).1
  have HC := hidd (docIn_any (w0 := wa) ⟨HE.out.at HBa.out, by omega⟩ hn (by omega) hc (HBy.out.old HBa.out hb))
  go_wp2_with fail
  refine HC.out.mono ?_
  rintro e w1 ⟨hb1, ⟨id, V, va, xs, r, lo, hrd, rfl, hlo, hans⟩ | ⟨hrd, rfl⟩⟩
  · obtain ⟨aA, cA, rfl⟩ := own_formR hans.row
    obtain ⟨t, ht⟩ : ∃ t, decide (r.length = 0) = t := ⟨_, rfl⟩
    rw [ht]
    have Ht := hidd ht
    clear ht
    have hQ1 := blko HQ.out hb1
    have HB1 := hidd (HBa.out.trans (hb1.mono HBa.out.size))
    have hsz1 := hb1.size
    have HAl := hidd ((Below.refl w1.heap.size w1).alloc (Nat.le_refl _) (.cells #[.string ⟨id.toArray⟩, .slice aA V.length cA] 36))
    have HX := hidd (heap_alloc_new w1 (.cells #[.string ⟨id.toArray⟩, .slice aA V.length cA] 36))
    have HAns := hidd hans
    have HQ1 := hidd hQ1
    have Hrd := hidd hrd
    clear hans hb1 hQ1 hrd HC HQ
    dsimp only
    go_upto_region 4 with fail
    obtain ⟨w2, hw2⟩ : ∃ w2, w1.alloc (.cells #[.string ⟨id.toArray⟩, .slice aA V.length cA] 36) = w2 := ⟨_, rfl⟩
    rw [hw2] at HAl HX
    try rw [hw2]
    clear hw2
    have kQ := blko HQ1.out HAl.out
    have kX := HX.out
    have hsz2 := HAl.out.size
    have HB2 := hidd (HB1.out.trans (HAl.out.mono HB1.out.size))
    have HA2 : Hid (AnsV w2 lo w2.heap.size (.slice aA V.length cA) V xs) := (HAns.out.keep fun x _ h2 => HAl.out.block x h2).mono hsz2
    have c0 := blkc kQ 0
    have c1 := blkc kQ 1
    have f0 := blkf kQ 0
    have f1 := blkf kQ 1
    have d0 := blkc kX 0
    have d1 := blkc kX 1
    simp only [List.getElem?_toArray, List.getElem?_cons_zero, List.getElem?_cons_succ] at c0 c1 d0 d1
    have HKQ := hidd kQ
    clear kQ kX HQ1 HAns HAl HX HB1
    cases t with
    | true =>
      have hr : r = [] := List.length_eq_zero_iff.1 (of_decide_eq_true Ht.out)
      subst hr
      have HAn := hidd (rdAns_ok Hrd.out)
      have HP : Hid (ReadP w0 bs (.returned (.tuple #[.agg #[.string ⟨id.toArray⟩, .slice aA V.length cA], .int .i64 0])) ((w2.setCell ⟨w0.heap.size, 0, none⟩ (.string ⟨id.toArray⟩)).setCell ⟨w0.heap.size, 1, none⟩ (.slice aA V.length cA))) := by
        refine ⟨(HB2.out.setCell (p := ⟨w0.heap.size, 0, none⟩) (Nat.le_refl _) _).setCell (p := ⟨w0.heap.size, 1, none⟩) (Nat.le_refl _) _, .slice aA V.length cA, xs, lo, ?_, by omega, ?_⟩
        · rw [HAn.out]
        · rw [HAn.out]
          refine (HA2.out.keep fun x h1 h2 => ?_).mono (by simp)
          rw [heap_set_other _ _ _ _ _ (by omega), heap_set_other _ _ _ _ _ (by omega)]
      have HX := hidd (blk_set2 (x := .string ⟨id.toArray⟩) (y := .slice aA V.length cA) HKQ.out)
      have z0 := blkc HX.out 0
      have z1 := blkc HX.out 1
      go_wp2_with fail
      refine bodyPost_ret (v := .tuple #[.agg #[.string ⟨id.toArray⟩, .slice aA V.length cA], .int .i64 0]) (by simp [results, Tryd.results12, go_sem, z0, z1]) rfl ?_
      exact HP.out
    | false =>
      have HAn := hidd (rdAns_rest Hrd.out (fun h => of_decide_eq_false Ht.out (by rw [h]; rfl)))
      have HP : Hid (ReadP w0 bs (.returned (.tuple #[.agg #[.string ⟨#[]⟩, .slice none 0 0], .int .i64 15])) ((w2.setCell ⟨w0.heap.size, 0, none⟩ (.string ⟨#[]⟩)).setCell ⟨w0.heap.size, 1, none⟩ (.slice none 0 0))) := by
        refine ⟨(HB2.out.setCell (p := ⟨w0.heap.size, 0, none⟩) (Nat.le_refl _) _).setCell (p := ⟨w0.heap.size, 1, none⟩) (Nat.le_refl _) _, .slice none 0 0, [], w0.heap.size, ?_, Nat.le_refl _, ?_⟩
        · rw [HAn.out]
        · rw [HAn.out]
          exact AnsV.nil _ _ _
      have HX := hidd (blk_set2 (x := .string ⟨#[]⟩) (y := .slice none 0 0) HKQ.out)
      have z0 := blkc HX.out 0
      have z1 := blkc HX.out 1
      go_wp2_with fail
      refine bodyPost_ret (v := .tuple #[.agg #[.string ⟨#[]⟩, .slice none 0 0], .int .i64 15]) (by simp [results, Tryd.results12, go_sem, z0, z1]) rfl ?_
      exact HP.out
  · have hQ1 := blko HQ.out hb1
    have HB1 := hidd (HBa.out.trans (hb1.mono HBa.out.size))
    have hsz1 := hb1.size
    have HAl := hidd ((Below.refl w1.heap.size w1).alloc (Nat.le_refl _) (.cells #[.string ⟨#[]⟩, .slice none 0 0] 36))
    have HQ1 := hidd hQ1
    have HAn := hidd (rdAns_no hrd)
    clear hb1 hQ1 hrd HC HQ
    dsimp only
    go_upto_region 4 with fail
    obtain ⟨w2, hw2⟩ : ∃ w2, w1.alloc (.cells #[.string ⟨#[]⟩, .slice none 0 0] 36) = w2 := ⟨_, rfl⟩
    rw [hw2] at HAl
    try rw [hw2]
    clear hw2
    have kQ := blko HQ1.out HAl.out
    have HB2 := hidd (HB1.out.trans (HAl.out.mono HB1.out.size))
    have c0 := blkc kQ 0
    have c1 := blkc kQ 1
    have f0 := blkf kQ 0
    have f1 := blkf kQ 1
    simp only [List.getElem?_toArray, List.getElem?_cons_zero, List.getElem?_cons_succ] at c0 c1
    have HP : Hid (ReadP w0 bs (.returned (.tuple #[.agg #[.string ⟨#[]⟩, .slice none 0 0], .int .i64 15])) ((w2.setCell ⟨w0.heap.size, 0, none⟩ (.string ⟨#[]⟩)).setCell ⟨w0.heap.size, 1, none⟩ (.slice none 0 0))) := by
      refine ⟨(HB2.out.setCell (p := ⟨w0.heap.size, 0, none⟩) (Nat.le_refl _) _).setCell (p := ⟨w0.heap.size, 1, none⟩) (Nat.le_refl _) _, .slice none 0 0, [], w0.heap.size, ?_, Nat.le_refl _, ?_⟩
      · rw [HAn.out]
      · rw [HAn.out]
        exact AnsV.nil _ _ _
    have HX := hidd (blk_set2 (x := .string ⟨#[]⟩) (y := .slice none 0 0) kQ)
    have z0 := blkc HX.out 0
    have z1 := blkc HX.out 1
    clear kQ
    go_wp2_with fail
    refine bodyPost_ret (v := .tuple #[.agg #[.string ⟨#[]⟩, .slice none 0 0], .int .i64 15]) (by simp [results, Tryd.results12, go_sem, z0, z1]) rfl ?_
    exact HP.out
end Go.Proofs.YtnekdkafhoacoaaDoor
