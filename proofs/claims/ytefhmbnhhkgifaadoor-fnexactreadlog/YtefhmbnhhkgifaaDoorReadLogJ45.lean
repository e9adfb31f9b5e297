import Derived.Test.YtefhmbnhhkgifaaDoorReadLogJ40
import Derived.Test.YtefhmbnhhkgifaaDoorReadLogJ44
namespace Go.Proofs.YtefhmbnhhkgifaaDoor
open Go Go.RowKit
set_option linter.unusedVariables false
set_option linter.unusedSimpArgs false
set_option maxRecDepth 100000

/-- An answer written over, and held as long as nothing writes there. -/
theorem markHeld {w : World} {base hi : Nat} {a1 : Option Addr} {c1 : Nat} {L : List Rc} {ys : List Value} {lo hh : Nat → Nat} {va : Nat → Value} {xs : Nat → List Value} (hb : base ≤ w.heap.size) (hhi : hi ≤ w.heap.size) (hn : L.length ≤ 1048576) (hs : SmL L) (hk : kL L 1 L.length ≤ 10000000) (h : LogA w base hi (.slice a1 L.length c1) L ys lo hh va xs) :
    Calls Tryd.prog 10 #[.slice a1 L.length c1, .int .i64 1] w fun e w' => e = .returned (.int .i64 ((kL L 1 L.length : Nat) : Int)) ∧ (∀ W, Below w'.heap.size w' W → Calls Tryd.prog 11 #[.slice a1 L.length c1, .int .i64 1] W fun e w2 => e = .returned (.int .i64 ((kL L 1 L.length : Nat) : Int)) ∧ Below W.heap.size W w2) ∧ MkFr base hi w w' := by
  rcases h.row.2 with ⟨e, h0⟩ | ⟨g, cap, cur, e, _, hg, _⟩
  · have hL : L = [] := List.length_eq_zero_iff.1 h0
    subst hL
    refine (markRecs_zero a1 c1 1 w).mono ?_
    rintro e w' ⟨rfl, rfl⟩
    refine ⟨rfl, fun W hW => (heldRecs_zero a1 c1 1 W).mono ?_, MkFr.refl _ _ _⟩
    rintro e w2 ⟨rfl, rfl⟩
    exact ⟨rfl, Below.refl _ _⟩
  · simp only [Value.slice.injEq] at e
    obtain ⟨rfl, _, rfl⟩ := e
    refine (markRecs base hi 1 g c1 L ys lo hh va w hb hhi hn hs (by omega) hk (h.lgm 1)).mono ?_
    rintro e w' ⟨rfl, ⟨ys', hm⟩, hf⟩
    have hsz := hf.2.2.2.1
    refine ⟨rfl, fun W hW => ?_, hf⟩
    exact heldRecs base hi 1 g c1 L ys' lo hh va W (by have := hW.size; omega) hn hs (by omega) hk (hm.below (by omega) hW)
/-- What the law holds on to. -/
structure LG (wb W : World) (lo hi : Nat) (a1 : Option Addr) (c1 : Nat) (L : List Rc) (ys : List Value) (l0 hh : Nat → Nat) (va : Nat → Value) (xs : Nat → List Value) : Prop where
  base : Below wb.heap.size wb W
  log : LogA W lo hi (.slice a1 L.length c1) L ys l0 hh va xs
  le : hi ≤ W.heap.size
theorem LG.below {wb W W' : World} {lo hi : Nat} {a1 : Option Addr} {c1 : Nat} {L : List Rc} {ys : List Value} {l0 hh : Nat → Nat} {va : Nat → Value} {xs : Nat → List Value} (h : LG wb W lo hi a1 c1 L ys l0 hh va xs) (hb : Below W.heap.size W W') : LG wb W' lo hi a1 c1 L ys l0 hh va xs :=
  ⟨h.base.trans (hb.mono h.base.size), h.log.below h.le hb, Nat.le_trans h.le hb.size⟩
theorem LG.grown {wb W W' : World} {lo hi : Nat} {a1 : Option Addr} {c1 : Nat} {L : List Rc} {ys : List Value} {l0 hh : Nat → Nat} {va : Nat → Value} {xs : Nat → List Value} {r : Nat} (h : LG wb W lo hi a1 c1 L ys l0 hh va xs) (hg : W.grownBy W' (some r)) (h1 : wb.heap.size ≤ r) (h3 : r < lo) : LG wb W' lo hi a1 c1 L ys l0 hh va xs :=
  ⟨h.base.grown hg h.base.size (fun k e => by cases e; exact h1), h.log.keep fun b q1 q2 => hg.block b (Nat.lt_of_lt_of_le q2 h.le) (fun e => by cases e; omega), Nat.le_trans h.le hg.size⟩
set_option maxHeartbeats 16000000 in
theorem readLogLaw_any {u : TypeId} {pv : Value} (ao : Option Addr) (n cap : Nat) (bs : List UInt8) (w : World) (hE : ErrC w u pv) (h : RowB w ao n bs) :
    Calls Tryd.prog 3 #[.slice ao n cap] w fun e w' => e = .returned (.bool true) ∧ Below w.heap.size w w' := by
  have HT : Hid (∀ w', n ≤ 1048576 → Below w.heap.size w w' → Calls Tryd.prog 5 #[.slice ao n cap] w' fun e w2 => e = .returned (.slice (some ⟨w'.heap.size, 0, none⟩) n n) ∧ w2.ownsRow w'.heap.size 5 1 (.slice (some ⟨w'.heap.size, 0, none⟩) n n) n (Lib.byteCells bs) ∧ Below w'.heap.size w' w2) := fun w' hn hb => h.to cap w' hn hb
  obtain ⟨rfl, _⟩ := h
  by_cases hlong : 1048576 < bs.length
  · have hlz : (bs.length : Int) > 1048576 := by omega
    clear HT
    go_enter Tryd.func3, Tryd.ntmps3
    go_wp2_with fail
    go_ret
    exact ⟨rfl, Below.refl _ _⟩
  have hlz : ¬ (bs.length : Int) > 1048576 := by omega
  have HE := hidd hE
  have HS : Hid (∀ g W, BytesAt W g 0 bs → g < W.heap.size → Calls Tryd.prog 4 #[.slice (some ⟨g, 0, none⟩) bs.length bs.length] W (LogP W bs)) := fun g W hb hg => specLog_any (by omega) hg (Nat.le_refl _) hb
  have HI : Hid (∀ g W, Below w.heap.size w W → BytesAt W g 0 bs → g < W.heap.size → Calls Tryd.prog 6 #[.slice (some ⟨g, 0, none⟩) bs.length bs.length] W (LogP W bs)) := fun g W hW hb hg => implLog_any ⟨HE.out.at hW, by have := HE.out.2; have := hW.size; omega⟩ (by omega) hg (Nat.le_refl _) hb
  unfold LogP at HS HI
  clear hE
  go_enter Tryd.func3, Tryd.ntmps3
  go_wp2_with fail
  refine (HT.out _ (by omega) (Below.refl _ _)).mono ?_
  rintro e w1 ⟨rfl, hown1, hb1⟩
  have HB1 := hidd hb1
  have HS1 := hidd (HS.out w.heap.size w1 (own_bytes hown1 rfl) (own_lt hown1))
  clear hown1 hb1
  go_wp2_with fail
  refine HS1.out.mono ?_
  rintro e wb ⟨hb2, L, r, vL0, ys0, l00, hh0, va0, xs0, rfl, hEnd, hlog0⟩
  obtain ⟨a0, c0, rfl⟩ := own_formR hlog0.row
  have HBb := hidd (HB1.out.trans (hb2.mono HB1.out.size))
  have HH0 := hidd hlog0.hold
  have HEnd := hidd hEnd
  have hkl := runK_len _ hEnd.1
  have hLl : L.length ≤ 1048576 := by omega
  have HSm := hidd (SmL.of hEnd.1)
  have hkb := kL_bound 1 _ hEnd.1
  have HIu : Hid (∀ g W, Below w.heap.size w W → BytesAt W g 0 bs → g < W.heap.size → Calls Tryd.prog 6 #[.slice (some ⟨g, 0, none⟩) bs.length bs.length] W fun e w' => Below W.heap.size W w' ∧ ∃ a1 c1 ys l0 hh va xs, e = .returned (.tuple #[.slice a1 L.length c1, .int .i64 ((bs.length - r.length : Nat) : Int), .int .i64 0]) ∧ LogA w' W.heap.size w'.heap.size (.slice a1 L.length c1) L ys l0 hh va xs) := fun g W hW hb hg => (HI.out g W hW hb hg).mono fun e w' ⟨h1, L', r', vL, ys, l0, hh, va, xs, h2, h3, h4⟩ => by
    obtain ⟨rfl, rfl⟩ := HEnd.out.uniq h3
    obtain ⟨a1, c1, rfl⟩ := own_formR h4.row
    exact ⟨h1, a1, c1, ys, l0, hh, va, xs, h2, h4⟩
  obtain ⟨U, hU⟩ : ∃ U : Int, ((bs.length - r.length : Nat) : Int) = U := ⟨_, rfl⟩
  rw [hU] at HIu
  try rw [hU]
  have hUn : (U != U) = false := by simp
  have hKl : kL L 1 L.length ≤ 10000000 := by omega
  clear hU hb2 hlog0 hEnd HS1 HS HB1 HI hkl hkb HEnd
  dsimp only
  go_wp2_with fail
  refine (HT.out _ (by omega) HBb.out).mono ?_
  rintro e w3 ⟨rfl, hown3, hb3⟩
  have HX3 := hidd hown3
  have HB3 := hidd hb3
  have hz3 : wb.heap.size < w3.heap.size := own_lt hown3
  have HI3 := hidd (HIu.out wb.heap.size w3 (HBb.out.trans (hb3.mono HBb.out.size)) (own_bytes hown3 rfl) hz3)
  clear hown3 hb3
  dsimp only
  go_wp2_with fail
  refine HI3.out.mono ?_
  rintro e w4 ⟨hb4, a1, c1, ys, l0, hh, va, xs, rfl, hlog⟩
  have HL := hidd (LG.mk (HB3.out.trans (hb4.mono HB3.out.size)) hlog (Nat.le_refl _))
  have HO4 := hidd (own_below HX3.out hb4)
  have hz4 := hb4.size
  obtain ⟨lo, hlo⟩ : ∃ lo, w3.heap.size = lo := ⟨_, rfl⟩
  obtain ⟨hi, hhi⟩ : ∃ hi, w4.heap.size = hi := ⟨_, rfl⟩
  rw [hlo, hhi] at HL
  rw [hlo] at hz3 hz4
  rw [hhi] at hz4
  clear hb4 hlog HI3 HB3 HX3 hlo hhi
  have HEq := hidd (eqRecs_any a1 a0 c1 c0 L w4 hLl HSm.out HL.out.log.hold (HH0.out.below HL.out.base))
  dsimp only
  go_wp2_with fail
  refine HEq.out.mono ?_
  rintro e w5 ⟨rfl, hb5⟩
  have HL5 := hidd (HL.out.below hb5)
  have HO5 := hidd (own_below HO4.out hb5)
  clear hb5 HEq HL HO4
  dsimp only
  go_wp2_with fail
  refine (HT.out _ (by omega) (HBb.out.trans (HL5.out.base.mono HBb.out.size))).mono ?_
  rintro e w6 ⟨rfl, hown6, hb6⟩
  have HY6 := hidd hown6
  have HL6 := hidd (HL5.out.below hb6)
  have HO6 := hidd (own_below HO5.out hb6)
  clear hown6 hb6 HL5 HO5
  dsimp only
  go_wp2_with fail
  refine (eqBytes_own _ _ bs.length _ _ bs _ (by omega) rfl HO6.out HY6.out).mono ?_
  rintro e w7 ⟨rfl, m7, hw7⟩
  have HL7 : Hid (LG wb w7 lo hi a1 c1 L ys l0 hh va xs) := by show LG _ _ _ _ _ _ _ _ _ _ _ _; rw [hw7]; exact HL6.out.below (below_drewN (Below.refl _ _) m7)
  have HO7 : Hid (w7.ownsRow wb.heap.size 5 1 (.slice (some ⟨wb.heap.size, 0, none⟩) bs.length bs.length) bs.length (Lib.byteCells bs)) := by show World.ownsRow _ _ _ _ _ _ _; rw [hw7]; exact own_drewN HO6.out m7
  clear HY6 HL6 HO6 hw7
  dsimp only
  go_wp2_with fail
  refine (markBytes_own _ bs.length _ _ 1 _ (by omega) (by omega) (by omega) HO7.out).mono ?_
  rintro e w8 ⟨rfl, hown8, hg8⟩
  have HL8 := hidd (HL7.out.grown hg8 (Nat.le_refl _) hz3)
  clear hown8 hg8 HL7 HO7
  have hkz : ¬ (1 + (bs.length : Int)) < 0 := by omega
  have HEq := hidd (eqRecs_any a1 a0 c1 c0 L w8 hLl HSm.out HL8.out.log.hold (HH0.out.below HL8.out.base))
  dsimp only
  go_wp2_with fail
  refine HEq.out.mono ?_
  rintro e w9 ⟨rfl, hb9⟩
  have HL9 := hidd (HL8.out.below hb9)
  clear hb9 HEq HL8
  have hhi9 := HL9.out.le
  have HMk := hidd (markHeld (by omega) hhi9 hLl HSm.out hKl HL9.out.log)
  obtain ⟨K, hK⟩ : ∃ K, kL L 1 L.length = K := ⟨_, rfl⟩
  rw [hK] at HMk hKl
  clear hK
  have hKn : ¬ (K : Int) < 0 := by omega
  have hKe : ((K : Int) != (K : Int)) = false := by simp
  dsimp only
  go_wp2_with fail
  refine HMk.out.mono ?_
  rintro e wm ⟨rfl, hheld, hbm⟩
  have hw9 : wb.heap.size ≤ w9.heap.size := HL9.out.base.size
  have HBm : Hid (Below wb.heap.size wb wm) := HL9.out.base.trans ⟨hbm.1, hbm.2.1, hbm.2.2.1, hbm.2.2.2.1, fun b hb => hbm.2.2.2.2 b (Or.inl (by omega)) (by omega)⟩
  have HHd := hidd hheld
  clear hheld hbm HMk HL9
  dsimp only
  go_wp2_with fail
  refine (HHd.out _ (Below.refl _ _)).mono ?_
  rintro e wn ⟨rfl, hbn⟩
  have HBmn := hidd hbn
  have HBn := hidd (HBm.out.trans (hbn.mono HBm.out.size))
  clear hbn HBm
  dsimp only
  go_wp2_with fail
  refine (HT.out _ (by omega) (HBb.out.trans (HBn.out.mono HBb.out.size))).mono ?_
  rintro e wo ⟨rfl, howno, hbo⟩
  have HBo := hidd (HBn.out.trans (hbo.mono HBn.out.size))
  have HBmo := hidd (HBmn.out.trans (hbo.mono HBmn.out.size))
  have HIo := hidd (HIu.out wn.heap.size wo (HBb.out.trans (HBo.out.mono HBb.out.size)) (own_bytes howno rfl) (own_lt howno))
  clear howno hbo HBn HBmn
  dsimp only
  go_wp2_with fail
  refine HIo.out.mono ?_
  rintro e wp ⟨hbp, a2, c2, ys2, l2, hh2, va2, xs2, rfl, hlog2⟩
  have HBp := hidd (HBo.out.trans (hbp.mono HBo.out.size))
  have HBmp := hidd (HBmo.out.trans (hbp.mono HBmo.out.size))
  have HEq := hidd (eqRecs_any a2 a0 c2 c0 L wp hLl HSm.out hlog2.hold (HH0.out.below HBp.out))
  clear hbp hlog2 HIo HBo HBmo
  dsimp only
  go_wp2_with fail
  refine HEq.out.mono ?_
  rintro e wq ⟨rfl, hbq⟩
  have HBq := hidd (HBp.out.trans (hbq.mono HBp.out.size))
  have HBmq := hidd (HBmp.out.trans (hbq.mono HBmp.out.size))
  clear hbq HEq HBp HBmp
  dsimp only
  go_wp2_with fail
  refine (HHd.out _ HBmq.out).mono ?_
  rintro e wr ⟨rfl, hbr⟩
  have HBr := hidd (HBb.out.trans ((HBq.out.trans (hbr.mono HBq.out.size)).mono HBb.out.size))
  clear hbr HBq HBmq
  dsimp only
  go_wp2_with fail
  go_ret
  exact ⟨rfl, HBr.out⟩
end Go.Proofs.YtefhmbnhhkgifaaDoor
