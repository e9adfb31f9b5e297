import Derived.Test.YtpdiaddgialanaaGreatDoorFwP
namespace Go.Proofs.YtpdiaddgialanaaGreatDoor
open Go Go.RowKit
set_option linter.unusedVariables false
set_option linter.unusedSimpArgs false
set_option maxRecDepth 100000

/-! The parser at the law's text. -/
theorem sTakeY {b : Nat} {T : ByteArray} {p : Nat} (c : UInt8) (hs : T.size ≤ 65536) (hc : (lst T)[p]? = some c) : StepP 81 #[.int .u8 (c.toNat : Int)] b T p (.bool true) (p + 1) := fun V hV => takes_yes V b T p c hs hV hc
theorem sTakeN {b : Nat} {T : ByteArray} {p : Nat} (c : UInt8) (hs : T.size ≤ 65536) (hp : p ≤ T.size) (hc : (lst T)[p]? ≠ some c) : StepP 81 #[.int .u8 (c.toNat : Int)] b T p (.bool false) p := fun V hV => takes_no V b T p c hs hV hp hc
theorem num_any {b : Nat} {T : ByteArray} {p n : Nat} (hs : T.size ≤ 65536) (hn1 : 1 ≤ n) (hn2 : n ≤ 99) (rest : List UInt8) (hd : (lst T).drop p = decB n ++ 32 :: rest) : StepP 84 #[] b T p (.tuple #[.int .i64 (n : Int), .nilIface]) (p + (decB n).length) := by
  intro V hV
  by_cases h : n < 10
  · have hb : decB n = [(48 + n).toUInt8] := by rw [decB, if_pos h]
    rw [hb] at hd ⊢
    have g := dig_nat n h
    have := number_one V b T p (48 + n).toUInt8 32 hs hV (drop_at0 hd) (by unfold DigC; omega) (drop_at (k := 1) hd) (by unfold DigC; decide)
    rw [show digV (48 + n).toUInt8 = (n : Int) from by unfold digV; omega] at this
    exact this
  · have hb : decB n = [(48 + n / 10).toUInt8, (48 + n % 10).toUInt8] := by rw [decB, if_neg h]
    rw [hb] at hd ⊢
    have g := dig_nat (n / 10) (by omega)
    have g' := dig_nat (n % 10) (by omega)
    have := number_two V b T p (48 + n / 10).toUInt8 (48 + n % 10).toUInt8 32 hs hV (drop_at0 hd) (by unfold DigC; omega) (drop_at (k := 1) hd) (by unfold DigC; omega) (drop_at (k := 2) hd) (by unfold DigC; decide)
    rw [show 10 * digV (48 + n / 10).toUInt8 + digV (48 + n % 10).toUInt8 = (n : Int) from by unfold digV; omega] at this
    exact this
def lawT (ws : List Int) (n : Nat) : ByteArray := bs (lwL (encs ws) (decB n))
def twoX (f tx f' tx' : ByteArray) (n : Nat) : List Value := [.int .i64 1, .int .i64 (n : Int), .iface 192 (.agg #[.string f, .string tx]), .int .i64 2, .int .i64 1, .iface 192 (.agg #[.string f', .string tx'])]
theorem decB_len (n : Nat) : 1 ≤ (decB n).length ∧ (decB n).length ≤ 2 := by unfold decB; split <;> simp
theorem parse_any (W : World) (b : Nat) (ws : List Int) (n : Nat) (hw : ∀ r ∈ ws, r ∈ wdR) (h1 : 1 ≤ ws.length) (h2 : ws.length ≤ 12) (hn1 : 1 ≤ n) (hn2 : n ≤ 99) (h : PsAt W b (lawT ws n) 0) (hTb : ∀ V, W.grownBy V (some b) → Tabs V) :
    Calls Tryz.prog 26 #[.pointer (some ⟨b, 0, none⟩)] W fun e W' => ∃ v, e = .returned (.tuple #[.agg #[.int .i64 0, .int .i64 1, .iface 106 (.agg #[v, .int .i64 0])], .nilIface]) ∧ PsAt W' b (lawT ws n) (lawT ws n).size ∧ W.grownBy W' (some b) ∧ W'.ownsRow W.heap.size 71 3 v 2 (twoX ⟨#[102, 49]⟩ (bs (encs ws)) ⟨#[]⟩ (bs (encs ws)) n) := by
  obtain ⟨hrun, hval⟩ := wd_valid ws hw
  have hsg := wds_sign ws hw
  have hsm := wds_small ws hw
  have hge := encs_ge ws
  have hrn : ∀ r ∈ runes (bs (encs ws)), r ∈ wdR := fun r hr => hw r (by rwa [hrun] at hr)
  unfold lawT at *
  generalize encs ws = wd at *
  obtain ⟨x, t, rfl⟩ : ∃ x t, wd = x :: t := by
    cases wd with
    | nil => exact absurd hge (by simp only [List.length_nil]; omega)
    | cons x t => exact ⟨x, t, rfl⟩
  have hdl := decB_len n
  have hlT : lst (bs (lwL (x :: t) (decB n))) = lwL (x :: t) (decB n) := lst_bs _
  have hsz : (bs (lwL (x :: t) (decB n))).size = 7 + (x :: t).length + (decB n).length + (x :: t).length := by rw [bs_size, lw_len]
  have d1 : (lst (bs (lwL (x :: t) (decB n)))).drop 4 = (x :: t) ++ 94 :: (decB n ++ 32 :: 45 :: (x :: t)) := by rw [hlT]; exact lw_drop4 _ _
  have d2 : (lst (bs (lwL (x :: t) (decB n)))).drop (4 + (x :: t).length) = 94 :: (decB n ++ 32 :: 45 :: (x :: t)) := by rw [hlT]; exact lw_drop5 _ _
  have d3 : (lst (bs (lwL (x :: t) (decB n)))).drop (4 + (x :: t).length + 1) = decB n ++ 32 :: 45 :: (x :: t) := by rw [hlT]; exact lw_drop6 _ _
  have d4 : (lst (bs (lwL (x :: t) (decB n)))).drop (4 + (x :: t).length + 1 + (decB n).length) = 32 :: 45 :: (x :: t) := by rw [hlT]; exact lw_drop7 _ _
  have d5 : (lst (bs (lwL (x :: t) (decB n)))).drop (4 + (x :: t).length + 1 + (decB n).length + 1) = 45 :: (x :: t) := by rw [hlT]; exact lw_drop8 _ _
  have d6 : (lst (bs (lwL (x :: t) (decB n)))).drop (4 + (x :: t).length + 1 + (decB n).length + 1 + 1) = x :: t := by rw [hlT]; exact lw_drop9 _ _
  have e1 : (bs (lwL (x :: t) (decB n))).extract (0 + 1) (bs (lwL (x :: t) (decB n))).size = bs (102 :: 49 :: 58 :: ((x :: t) ++ 94 :: (decB n ++ 32 :: 45 :: (x :: t)))) := by rw [bs_extW]; rfl
  have e2 : (bs (lwL (x :: t) (decB n))).extract (4 + (x :: t).length + 1 + (decB n).length + 1 + 1) (bs (lwL (x :: t) (decB n))).size = bs (x :: t) := by rw [bs_extW, lw_drop9]
  have g0 : (lst (bs (lwL (x :: t) (decB n))))[0]? = some 43 := by rw [hlT]; rfl
  have hz : (bs (x :: t)).size = (x :: t).length := bs_size _
  have hz1 : 1 ≤ (x :: t).length := by simp
  have hz2 : (x :: t).length ≤ 24 := by omega
  have hend : 4 + (x :: t).length + 1 + (decB n).length + 1 + 1 + (x :: t).length = (bs (lwL (x :: t) (decB n))).size := by rw [hsz]; omega
  have hgE : (lst (bs (lwL (x :: t) (decB n))))[(bs (lwL (x :: t) (decB n))).size]? = none := List.getElem?_eq_none (by rw [lst_len]; omega)
  have hsT : (bs (lwL (x :: t) (decB n))).size ≤ 65536 := by omega
  generalize bs (lwL (x :: t) (decB n)) = T at *
  have hx : x ∉ sgL := hsg x (List.mem_cons_self ..)
  refine query_two W b T 0 _ h hsT fun V hg hV => ?_
  unfold twoX
  refine (twigs_two V b T ⟨#[102, 49]⟩ (bs (x :: t)) ⟨#[]⟩ (bs (x :: t)) 1 n 2 1 0 (4 + (x :: t).length + 1 + (decB n).length) (4 + (x :: t).length + 1 + (decB n).length + 1) T.size hV ?k0 ?a1 ?t1 ?k1 ?a2 ?t2 ?k2 ?a3).mono fun e W' hr => hr
  case k0 => exact fun U hU => blanks_no U b T 0 hsT hU (by omega) (by rw [g0]; decide)
  case a1 => exact fun U hU => atEnd_no U b T 0 43 hsT hU g0 (by decide)
  case k1 => exact fun U hU => blanks_one U b T _ hsT hU (drop_at0 d4) (by rw [drop_at0 d5]; simp)
  case a2 => exact fun U hU => atEnd_no U b T _ 45 hsT hU (drop_at0 d5) (by decide)
  case k2 => exact fun U hU => blanks_no U b T _ hsT hU (Nat.le_refl _) (by rw [hgE]; simp)
  case a3 => exact fun U hU => atEnd_yes U b T hsT hU
  case t1 =>
    intro U hgU hU
    refine twig_must U b T ⟨#[102, 49]⟩ (bs (x :: t)) 0 4 (4 + (x :: t).length) _ n hU (fun Y hY => hTb Y (grown_trans hg (grown_trans hgU hY))) (sTakeY 43 hsT g0) ?f1 ?c1 (sTakeY 94 hsT (drop_at0 d2)) (num_any hsT hn1 hn2 _ d3) (Or.inr rfl) ⟨by omega, by omega⟩ (by omega) (by omega) hval
    case f1 => exact fun Y hY => field_some Y b T _ (0 + 1) _ hsT hY (by omega) e1 (by rw [bs_size]; simp; omega) (by rw [lst_bs]; rfl)
    case c1 => exact fun Y hY => clause_any Y b T ⟨#[102, 49]⟩ (Or.inr rfl) 4 x t _ hsT hY (by omega) d1 hsg (by
      intro c hc
      simp only [List.head?_cons, Option.some.injEq] at hc
      subst hc
      decide)
  case t2 =>
    intro U hgU hU
    have := twig_not U b T ⟨#[]⟩ (bs (x :: t)) (4 + (x :: t).length + 1 + (decB n).length + 1) (4 + (x :: t).length + 1 + (decB n).length + 1 + 1) T.size hU (fun Y hY => hTb Y (grown_trans hg (grown_trans hgU hY))) (sTakeN 43 hsT (by omega) (by rw [drop_at0 d5]; simp)) (sTakeY 45 hsT (drop_at0 d5)) ?f1 ?c1 (sTakeN 94 hsT (Nat.le_refl _) (by rw [hgE]; simp)) (Or.inl rfl) (by omega) (by omega) hval
    case f1 => exact fun Y hY => field_none Y b T _ hsT hY (by omega) (by rw [e2, lst_bs]; exact hsg) (by rw [e2]; exact hrn)
    case c1 =>
      intro Y hY
      have := clause_any Y b T ⟨#[]⟩ (Or.inl rfl) (4 + (x :: t).length + 1 + (decB n).length + 1 + 1) x t [] hsT hY (by omega) (by rw [d6, List.append_nil]) hsg (fun c hc => by simp at hc)
      rw [hend] at this
      exact this
    exact this
end Go.Proofs.YtpdiaddgialanaaGreatDoor
