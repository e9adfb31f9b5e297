import Derived.Test.YtpdiaddgialanaaGreatDoorFwA
import Derived.Maps.AppendAt
import Derived.Laws.OwnMore
namespace Go.Proofs.YtpdiaddgialanaaGreatDoor
open Go Go.RowKit
set_option linter.unusedVariables false
set_option linter.unusedSimpArgs false
set_option maxRecDepth 100000

/-! The parser of queries: numbers, runs of bytes, fields. -/
def digV (c : UInt8) : Int := (c.toNat : Int) - 48
def DigC (c : UInt8) : Prop := 48 ≤ (c.toNat : Int) ∧ (c.toNat : Int) ≤ 57
/-- A number of one digit or two, behind which none stands. -/
def numV : List UInt8 → Int
  | [] => 0
  | [c] => digV c
  | c :: d :: _ => 10 * digV c + digV d
set_option maxHeartbeats 4000000 in
theorem number_one (W : World) (b : Nat) (T : ByteArray) (p : Nat) (c d : UInt8) (hs : T.size ≤ 65536) (h : PsAt W b T p) (hc : (lst T)[p]? = some c) (hcd : DigC c) (hd : (lst T)[p + 1]? = some d) (hdd : ¬ DigC d) :
    Calls Tryz.prog 84 #[.pointer (some ⟨b, 0, none⟩)] W (PsR W b T (.tuple #[.int .i64 (digV c), .nilIface]) (p + 1)) := by
  obtain ⟨hp, hv⟩ := byte_in hc
  have H0 := hidd h
  have HY : Hid (∀ V, PsAt V b T p → Calls Tryz.prog 101 #[.pointer (some ⟨b, 0, none⟩)] V (PsR V b T (.bool true) p)) := fun V hV => atDigit_yes V b T p c hs hV hc hcd.1 hcd.2
  have HN : Hid (∀ V, PsAt V b T (p + 1) → Calls Tryz.prog 101 #[.pointer (some ⟨b, 0, none⟩)] V (PsR V b T (.bool false) (p + 1))) := fun V hV => atDigit_no V b T (p + 1) d hs hV hd hdd
  have h48 : (c.toNat : Int) - 48 = digV c := rfl
  have hdz : 0 ≤ digV c ∧ digV c ≤ 9 := by unfold digV; have := hcd.1; have := hcd.2; omega
  have hw8 : IntKind.u8.wrap (digV c) = digV c := by rw [IntKind.wrap_u8]; omega
  have hw6 : IntKind.i64.wrap (digV c) = digV c := by rw [IntKind.wrap_i64]; omega
  have hpz : (p : Int) < (T.size : Int) := by omega
  clear h hc hd hdd hcd
  go_enter Tryz.func84, Tryz.ntmps84
  go_wp2_with fail
  refine (HY.out _ H0.out).mono ?_
  rintro e W1 ⟨rfl, h1, hg1⟩
  have H1 := hidd h1
  have HG1 := hidd hg1
  clear h1 hg1
  go_wp2_with fail
  refine wp_loop_rounds 2 ?_
  rw [rounds_succ]
  go_wp2_with fail
  refine (HY.out _ H1.out).mono ?_
  rintro e W2 ⟨rfl, h2, hg2⟩
  obtain ⟨c0, c1, f1⟩ := h2.cell
  have H2 := hidd h2
  have HG2 := hidd (grown_trans HG1.out hg2)
  clear h2 hg2 H1 HG1
  go_wp2_with fail
  go_quiet (fail)
  go_wp2_with fail
  have H3 := hidd (PsAt.set (W := W2.drewN nq) H2.out (p + 1))
  have HG3 := hidd (grown_trans HG2.out (grown_trans (grown_drewP W2 nq (some b)) (grown_setP (W2.drewN nq) b 1 (.int .i64 ((p + 1 : Nat) : Int)))))
  have hcast : ((p + 1 : Nat) : Int) = (p : Int) + 1 := by omega
  rw [hcast] at H3 HG3
  clear hcast
  generalize (W2.drewN nq).setCell ⟨b, 1, none⟩ (.int .i64 ((p : Int) + 1)) = W3 at *
  clear c0 c1 f1 H2 HG2
  rw [rounds_succ]
  go_wp2_with fail
  refine (HN.out _ H3.out).mono ?_
  rintro e W4 ⟨rfl, h4, hg4⟩
  have H4 := hidd h4
  have HG4 := hidd (grown_trans HG3.out hg4)
  clear h4 hg4 H3 HG3
  go_wp2_with fail
  go_ret2
  exact ⟨rfl, H4.out, HG4.out⟩
set_option maxHeartbeats 4000000 in
theorem number_two (W : World) (b : Nat) (T : ByteArray) (p : Nat) (c c' d : UInt8) (hs : T.size ≤ 65536) (h : PsAt W b T p) (hc : (lst T)[p]? = some c) (hcd : DigC c) (hc' : (lst T)[p + 1]? = some c') (hcd' : DigC c') (hd : (lst T)[p + 1 + 1]? = some d) (hdd : ¬ DigC d) :
    Calls Tryz.prog 84 #[.pointer (some ⟨b, 0, none⟩)] W (PsR W b T (.tuple #[.int .i64 (10 * digV c + digV c'), .nilIface]) (p + 1 + 1)) := by
  obtain ⟨hp, hv⟩ := byte_in hc
  obtain ⟨hp', hv'⟩ := byte_in hc'
  have H0 := hidd h
  have HY : Hid (∀ V, PsAt V b T p → Calls Tryz.prog 101 #[.pointer (some ⟨b, 0, none⟩)] V (PsR V b T (.bool true) p)) := fun V hV => atDigit_yes V b T p c hs hV hc hcd.1 hcd.2
  have HY' : Hid (∀ V, PsAt V b T (p + 1) → Calls Tryz.prog 101 #[.pointer (some ⟨b, 0, none⟩)] V (PsR V b T (.bool true) (p + 1))) := fun V hV => atDigit_yes V b T (p + 1) c' hs hV hc' hcd'.1 hcd'.2
  have HN : Hid (∀ V, PsAt V b T (p + 1 + 1) → Calls Tryz.prog 101 #[.pointer (some ⟨b, 0, none⟩)] V (PsR V b T (.bool false) (p + 1 + 1))) := fun V hV => atDigit_no V b T (p + 1 + 1) d hs hV hd hdd
  have h48 : (c.toNat : Int) - 48 = digV c := rfl
  have hdz : 0 ≤ digV c ∧ digV c ≤ 9 := by unfold digV; have := hcd.1; have := hcd.2; omega
  have hw8 : IntKind.u8.wrap (digV c) = digV c := by rw [IntKind.wrap_u8]; omega
  have hw6 : IntKind.i64.wrap (digV c) = digV c := by rw [IntKind.wrap_i64]; omega
  have h48' : (c'.toNat : Int) - 48 = digV c' := rfl
  have hdz' : 0 ≤ digV c' ∧ digV c' ≤ 9 := by unfold digV; have := hcd'.1; have := hcd'.2; omega
  have hw8' : IntKind.u8.wrap (digV c') = digV c' := by rw [IntKind.wrap_u8]; omega
  have hw6' : IntKind.i64.wrap (digV c') = digV c' := by rw [IntKind.wrap_i64]; omega
  have hw7 : IntKind.i64.wrap (10 * digV c) = 10 * digV c := by rw [IntKind.wrap_i64]; omega
  have hw9 : IntKind.i64.wrap (10 * digV c + digV c') = 10 * digV c + digV c' := by rw [IntKind.wrap_i64]; omega
  have hpz : (p : Int) < (T.size : Int) := by omega
  clear h hc hd hdd hcd hc' hcd'
  obtain ⟨q, hq⟩ : ∃ q, p + 1 = q := ⟨_, rfl⟩
  have HQ := hidd hq
  have hqz : (q : Int) < (T.size : Int) := by omega
  have hql : q < T.size := by omega
  have hvq : T[q]'hql = c' := by subst hq; exact hv'
  rw [hq] at HY' HN
  rw [hq]
  clear hv'
  go_enter Tryz.func84, Tryz.ntmps84
  go_wp2_with fail
  refine (HY.out _ H0.out).mono ?_
  rintro e W1 ⟨rfl, h1, hg1⟩
  have H1 := hidd h1
  have HG1 := hidd hg1
  clear h1 hg1
  have hqc : (p : Int) + 1 = (q : Int) := by omega
  clear hq
  go_wp2_with fail
  refine wp_loop_rounds 3 ?_
  rw [rounds_succ]
  go_wp2_with fail
  refine (HY.out _ H1.out).mono ?_
  rintro e W2 ⟨rfl, h2, hg2⟩
  obtain ⟨c0, c1, f1⟩ := h2.cell
  have H2 := hidd h2
  have HG2 := hidd (grown_trans HG1.out hg2)
  clear h2 hg2 H1 HG1
  go_wp2_with fail
  go_quiet (fail)
  go_wp2_with fail
  have H3 := hidd (PsAt.set (W := W2.drewN nq) H2.out q)
  have HG3 := hidd (grown_trans HG2.out (grown_trans (grown_drewP W2 nq (some b)) (grown_setP (W2.drewN nq) b 1 (.int .i64 (q : Int)))))
  try rw [hqc]
  generalize (W2.drewN nq).setCell ⟨b, 1, none⟩ (.int .i64 (q : Int)) = W3 at *
  clear c0 c1 f1 H2 HG2
  rw [rounds_succ]
  go_wp2_with fail
  refine (HY'.out _ H3.out).mono ?_
  rintro e W4 ⟨rfl, h4, hg4⟩
  obtain ⟨c0, c1, f1⟩ := h4.cell
  have H4 := hidd h4
  have HG4 := hidd (grown_trans HG3.out hg4)
  clear h4 hg4 H3 HG3
  go_wp2_with fail
  go_quiet (fail)
  go_wp2_with fail
  obtain ⟨q2, hq2⟩ : ∃ x, q + 1 = x := ⟨_, rfl⟩
  have HQ2 := hidd hq2
  have hqc2 : (q : Int) + 1 = (q2 : Int) := by omega
  rw [hq2] at HN
  clear hq2
  have H5 := hidd (PsAt.set (W := W4.drewN nq) H4.out q2)
  have HG5 := hidd (grown_trans HG4.out (grown_trans (grown_drewP W4 nq (some b)) (grown_setP (W4.drewN nq) b 1 (.int .i64 (q2 : Int)))))
  try rw [hqc2]
  generalize (W4.drewN nq).setCell ⟨b, 1, none⟩ (.int .i64 (q2 : Int)) = W5 at *
  clear c0 c1 f1 H4 HG4
  rw [rounds_succ]
  go_wp2_with fail
  refine (HN.out _ H5.out).mono ?_
  rintro e W6 ⟨rfl, h6, hg6⟩
  have H6 := hidd h6
  have HG6 := hidd (grown_trans HG5.out hg6)
  clear h6 hg6 H5 HG5
  go_wp2_with fail
  go_ret2
  rw [HQ2.out]
  exact ⟨rfl, H6.out, HG6.out⟩
end Go.Proofs.YtpdiaddgialanaaGreatDoor
