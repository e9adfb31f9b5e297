import Derived.Test.YtbkedgpligcicaaProg
import Derived.Test.YtbkedgpligcicaaDictJ01
import Derived.WalkLawsBesides
import Derived.Test.YtbkedgpligcicaaDictJ04
import Derived.Maps.AppendAt
import Derived.Lib.BufferWrite
import Derived.Laws.BitsAllLaws
import Derived.BigQuiet
import Derived.Deep.QuietTactic
import Derived.OrdersHeld
import Derived.WalkKit
namespace Go.Proofs.Ytbkedgpligcicaa
open Go Go.RowKit
set_option linter.unusedVariables false

set_option maxHeartbeats 400000 in
theorem within_any (r lo hi : Int) (w : World) : Calls Try.prog 45 #[.int .i64 r, .int .i64 lo, .int .i64 hi] w fun e w' => e = .returned (.bool (decide (lo ≤ r) && decide (r ≤ hi))) ∧ w' = w := by
  by_cases h : lo ≤ r
  · have HB : Hid (decide (lo ≤ r) = true) := decide_eq_true h
    go_enter Try.func45, Try.ntmps45
    go_wp2
    go_ret
    rw [HB.out, Bool.true_and]
    exact ⟨rfl, rfl⟩
  · have HB : Hid (decide (lo ≤ r) = false) := decide_eq_false h
    go_enter Try.func45, Try.ntmps45
    go_wp2
    go_ret
    rw [HB.out, Bool.false_and]
    exact ⟨rfl, rfl⟩

end Go.Proofs.Ytbkedgpligcicaa

namespace Go.Proofs.Ytbkedgpligcicaa
open Go Go.RowKit
set_option linter.unusedVariables false

theorem getD_drop {l : List Ar} {k : Nat} (h : k < l.length) : l.drop k = l.getD k ar0 :: l.drop (k + 1) := by
  rw [List.drop_eq_getElem_cons h]; simp [h]
theorem getD_dropS {l : List St} {k : Nat} (h : k < l.length) : l.drop k = l.getD k st0 :: l.drop (k + 1) := by
  rw [List.drop_eq_getElem_cons h]; simp [h]

set_option maxHeartbeats 4000000 in
set_option maxRecDepth 100000 in
theorem metInOrder_any (a : Option Addr) (c : Nat) (S : List St) (w : World) (hn : S.length ≤ 1048576) (hA : ∀ i, (arcsAt S i).length ≤ 1048576) (h1 : HoldS w a S) :
    Calls Try.prog 69 #[.slice a S.length c] w fun e w' => e = .returned (.bool (metOK S)) ∧ Below w.heap.size w w' := by
  obtain ⟨R, hR⟩ : ∃ R, metOK S = R := ⟨_, rfl⟩
  rw [hR]
  have H1 := hidd h1
  have HAr := hidd hA
  clear h1 hA
  by_cases hlen : 1 ≤ S.length ∧ S.length ≤ 16384
  · have HR : Hid (metGo S.length 0 1 S = R) := by
      show _ = _
      rw [← hR, metOK, decide_eq_true hlen, Bool.true_and]
    have hb : (decide ((1 : Int) ≤ (S.length : Int)) && decide ((S.length : Int) ≤ 16384)) = true := by simp; omega
    clear hR
    go_enter Try.func69, Try.ntmps69
    go_wp2_with fail
    refine (within_any _ _ _ _).mono ?_
    rintro e w' ⟨rfl, hw'⟩
    obtain rfl := hw'.symm
    clear hw'
    rw [hb]
    go_wp2_with fail
    generalize hN : S.length = N at *
    go_loopw [3, 15] (fun mv iv wr => ∃ i met : Nat, i ≤ N ∧ met ≤ N ∧ 1 ≤ met ∧ iv = .int .i64 (i : Int) ∧ mv = .int .i64 (met : Int) ∧ metGo N i met (S.drop i) = R ∧ Below w.heap.size w wr) (fun _ iv _ => N - (intOf iv).toNat)
    case atStart => exact ⟨0, 1, by omega, by omega, by omega, rfl, rfl, by rw [List.drop_zero]; exact HR.out, Below.refl _ _⟩
    case round =>
      clear HR
      obtain ⟨i, met, hi, hmet, hmet1, rfl, rfl, hgo, hbel⟩ := hrel
      have HG := hidd hgo
      have HB := hidd hbel
      have hwz := hbel.size
      clear hgo hbel
      by_cases hlt : i < N
      · have hiz : (i : Int) < (N : Int) := by omega
        obtain ⟨b, off, rfl, hbl, hc⟩ := (H1.out.below HB.out).resolve_left (fun h => by rw [h] at hN; simp at hN; omega)
        obtain ⟨x0, ai, ci, x1, hha⟩ := hc i (by omega)
        clear hc
        have HD := hidd (getD_dropS (show i < S.length by omega))
        rw [HD.out] at HG
        have hal := HAr.out i
        rw [arcsAt] at hal
        have HHA := hidd hha
        clear hha HD
        obtain ⟨s, hs⟩ : ∃ s, S.getD i st0 = s := ⟨_, rfl⟩
        rw [hs] at x0 x1 HHA HG hal
        clear hs
        obtain ⟨f, l⟩ := s
        dsimp only at x0 x1 HHA HG hal
        have HBb : Hid (Below wr.heap.size wr (wr.alloc (.cells #[.bool f, .slice ai l.length ci] 82))) := (Below.refl _ _).alloc (Nat.le_refl _) _
        have Hbx := hidd (heap_alloc_new wr (.cells #[.bool f, .slice ai l.length ci] 82))
        rw [metGo] at HG
        by_cases him : i = met
        · rw [if_pos him] at HG
          subst him
          go_wp2_with fail
          go_ret
          rw [← HG.out]
          exact ⟨rfl, HB.out.trans (HBb.out.mono hwz)⟩
        · have himz : ((i : Int) == (met : Int)) = false := beq_eq_false_iff_ne.2 (by omega)
          rw [if_neg him] at HG
          have HH2 := hidd (HHA.out.below HBb.out)
          go_wp2_with fail
          generalize wr.alloc (.cells #[.bool f, .slice ai l.length ci] 82) = wb at *
          have HB2 := hidd (HB.out.trans (HBb.out.mono hwz))
          clear HBb Hbx HB HHA x0 x1
          go_loopw [3, 6, 26] (fun mv lv jv wx => ∃ (j mt : Nat) (last : Int), j ≤ l.length ∧ mt ≤ N ∧ 1 ≤ mt ∧ -1 ≤ last ∧ last ≤ 255 ∧ jv = .int .i64 (j : Int) ∧ mv = .int .i64 (mt : Int) ∧ lv = .int .i64 last ∧ (match arcGo N mt last (l.drop j) with
              | none => false
              | some m => metGo N (i + 1) m (S.drop (i + 1))) = R ∧ Below wb.heap.size wb wx) (fun _ _ jv _ => l.length - (intOf jv).toNat)
          case atStart => exact ⟨0, met, -1, by omega, hmet, hmet1, by omega, by omega, rfl, rfl, rfl, by rw [List.drop_zero]; exact HG.out, Below.refl _ _⟩
          case round =>
            clear HG
            obtain ⟨j, mt, last, hj, hmt, hmt1, hl0, hl1, rfl, rfl, rfl, hgo, hbx⟩ := hrel
            have HG := hidd hgo
            have HX := hidd hbx
            have hxz := hbx.size
            clear hgo hbx
            by_cases hjl : j < l.length
            · have hjz : (j : Int) < (l.length : Int) := by omega
              obtain ⟨b2, o2, rfl, hb2, hc2⟩ := (HH2.out.below HX.out).resolve_left (fun h => by rw [h] at hjl; simp at hjl)
              obtain ⟨y0, y1, y2⟩ := hc2 j hjl
              clear hc2
              rw [getD_drop hjl] at HG
              obtain ⟨p, hp⟩ : ∃ p, l.getD j ar0 = p := ⟨_, rfl⟩
              rw [hp] at y0 y1 y2 HG
              clear hp
              obtain ⟨p0, p1, p2⟩ := p
              dsimp only at y0 y1 y2
              rw [arcGo] at HG
              dsimp only at HG
              have HBc := hidd (HX.out.alloc hxz (.cells #[.int .i64 p0, .int .i64 p1, .int .i64 p2] 85))
              by_cases hlab : last + 1 ≤ p0 ∧ p0 ≤ 255
              · have hlb : (decide (last + 1 ≤ p0) && decide (p0 ≤ 255)) = true := by simp; omega
                by_cases hmn : (mt : Int) ≤ (N : Int) - 1
                · have hme : min (mt : Int) ((N : Int) - 1) = (mt : Int) := by omega
                  rw [hme] at HG
                  by_cases hto : 0 ≤ p1 ∧ p1 ≤ (mt : Int)
                  · have htb : (decide ((0 : Int) ≤ p1) && decide (p1 ≤ (mt : Int))) = true := by simp; omega
                    rw [if_pos ⟨hlab.1, hlab.2, hto.1, hto.2⟩] at HG
                    go_wp2_with fail
                    refine (within_any _ _ _ _).mono ?_
                    rintro e w' ⟨rfl, hw'⟩
                    obtain rfl := hw'.symm
                    clear hw'
                    rw [hlb]
                    go_wp2_with fail
                    refine (within_any _ _ _ _).mono ?_
                    rintro e w' ⟨rfl, hw'⟩
                    obtain rfl := hw'.symm
                    clear hw'
                    rw [htb]
                    by_cases heq : p1 = (mt : Int)
                    · subst heq
                      rw [if_pos rfl] at HG
                      go_wp2_with fail
                      go_roundw
                      case rel => exact ⟨j + 1, mt + 1, p0, by omega, by omega, by omega, by omega, by omega, by go_num, by go_num, rfl, HG.out, HBc.out⟩
                      case measure => simp [intOf]; omega
                    · have heqz : (p1 == (mt : Int)) = false := beq_eq_false_iff_ne.2 heq
                      rw [if_neg heq] at HG
                      go_wp2_with fail
                      go_roundw
                      case rel => exact ⟨j + 1, mt, p0, by omega, by omega, by omega, by omega, by omega, by go_num, rfl, rfl, HG.out, HBc.out⟩
                      case measure => simp [intOf]; omega
                  · have htb : (decide ((0 : Int) ≤ p1) && decide (p1 ≤ (mt : Int))) = false := by
                      cases hq : (decide ((0 : Int) ≤ p1) && decide (p1 ≤ (mt : Int))) with
                      | false => rfl
                      | true => simp at hq; omega
                    rw [if_neg (fun h => hto ⟨h.2.2.1, h.2.2.2⟩)] at HG
                    go_wp2_with fail
                    refine (within_any _ _ _ _).mono ?_
                    rintro e w' ⟨rfl, hw'⟩
                    obtain rfl := hw'.symm
                    clear hw'
                    rw [hlb]
                    go_wp2_with fail
                    refine (within_any _ _ _ _).mono ?_
                    rintro e w' ⟨rfl, hw'⟩
                    obtain rfl := hw'.symm
                    clear hw'
                    rw [htb]
                    go_wp2_with fail
                    go_ret
                    rw [← HG.out]
                    exact ⟨rfl, HB2.out.trans (HBc.out.mono HB2.out.size)⟩
                · have hme : min (mt : Int) ((N : Int) - 1) = (N : Int) - 1 := by omega
                  rw [hme] at HG
                  by_cases hto : 0 ≤ p1 ∧ p1 ≤ (N : Int) - 1
                  · have htb : (decide ((0 : Int) ≤ p1) && decide (p1 ≤ (N : Int) - 1)) = true := by simp; omega
                    rw [if_pos ⟨hlab.1, hlab.2, hto.1, hto.2⟩] at HG
                    go_wp2_with fail
                    refine (within_any _ _ _ _).mono ?_
                    rintro e w' ⟨rfl, hw'⟩
                    obtain rfl := hw'.symm
                    clear hw'
                    rw [hlb]
                    go_wp2_with fail
                    refine (within_any _ _ _ _).mono ?_
                    rintro e w' ⟨rfl, hw'⟩
                    obtain rfl := hw'.symm
                    clear hw'
                    rw [htb]
                    by_cases heq : p1 = (mt : Int)
                    · exfalso; omega
                    · have heqz : (p1 == (mt : Int)) = false := beq_eq_false_iff_ne.2 heq
                      rw [if_neg heq] at HG
                      go_wp2_with fail
                      go_roundw
                      case rel => exact ⟨j + 1, mt, p0, by omega, by omega, by omega, by omega, by omega, by go_num, rfl, rfl, HG.out, HBc.out⟩
                      case measure => simp [intOf]; omega
                  · have htb : (decide ((0 : Int) ≤ p1) && decide (p1 ≤ (N : Int) - 1)) = false := by
                      cases hq : (decide ((0 : Int) ≤ p1) && decide (p1 ≤ (N : Int) - 1)) with
                      | false => rfl
                      | true => simp at hq; omega
                    rw [if_neg (fun h => hto ⟨h.2.2.1, h.2.2.2⟩)] at HG
                    go_wp2_with fail
                    refine (within_any _ _ _ _).mono ?_
                    rintro e w' ⟨rfl, hw'⟩
                    obtain rfl := hw'.symm
                    clear hw'
                    rw [hlb]
                    go_wp2_with fail
                    refine (within_any _ _ _ _).mono ?_
                    rintro e w' ⟨rfl, hw'⟩
                    obtain rfl := hw'.symm
                    clear hw'
                    rw [htb]
                    go_wp2_with fail
                    go_ret
                    rw [← HG.out]
                    exact ⟨rfl, HB2.out.trans (HBc.out.mono HB2.out.size)⟩
              · have hlb : (decide (last + 1 ≤ p0) && decide (p0 ≤ 255)) = false := by
                  cases hq : (decide (last + 1 ≤ p0) && decide (p0 ≤ 255)) with
                  | false => rfl
                  | true => simp at hq; omega
                rw [if_neg (fun h => hlab ⟨h.1, h.2.1⟩)] at HG
                go_wp2_with fail
                refine (within_any _ _ _ _).mono ?_
                rintro e w' ⟨rfl, hw'⟩
                obtain rfl := hw'.symm
                clear hw'
                rw [hlb]
                go_wp2_with fail
                go_ret
                rw [← HG.out]
                exact ⟨rfl, HB2.out.trans (HBc.out.mono HB2.out.size)⟩
            · have hjz : ¬ (j : Int) < (l.length : Int) := by omega
              rw [List.drop_of_length_le (by omega), arcGo] at HG
              go_wp2_with fail
              go_roundw
              case rel => exact ⟨i + 1, mt, by omega, hmt, hmt1, by go_num, rfl, HG.out, HB2.out.trans (HX.out.mono HB2.out.size)⟩
              case measure => simp [intOf]; omega
      · have hiz : ¬ (i : Int) < (N : Int) := by omega
        rw [List.drop_of_length_le (by omega), metGo] at HG
        go_wp2_with fail
        go_ret
        rw [← HG.out]
        exact ⟨rfl, HB.out⟩
  · have hb : (decide ((1 : Int) ≤ (S.length : Int)) && decide ((S.length : Int) ≤ 16384)) = false := by
      cases hq : (decide ((1 : Int) ≤ (S.length : Int)) && decide ((S.length : Int) ≤ 16384)) with
      | false => rfl
      | true => simp at hq; omega
    have HR : Hid (R = false) := by
      show _ = _
      rw [← hR, metOK, decide_eq_false hlen, Bool.false_and]
    clear hR
    go_enter Try.func69, Try.ntmps69
    go_wp2_with fail
    refine (within_any _ _ _ _).mono ?_
    rintro e w' ⟨rfl, hw'⟩
    obtain rfl := hw'.symm
    clear hw'
    rw [hb]
    go_wp2_with fail
    go_ret
    rw [HR.out]
    exact ⟨rfl, Below.refl _ _⟩
end Go.Proofs.Ytbkedgpligcicaa

namespace Go.Proofs.Ytbkedgpligcicaa
open Go Go.RowKit
set_option linter.unusedVariables false

/-! spec's count of endings, in plain words: -1 not yet, -2 under way. -/
def valD (D : List Int) (j : Nat) : Int := D.getD j (-1)
def ArcIn (n : Nat) (a : Ar) : Prop := 0 ≤ a.1 ∧ a.1 ≤ 255 ∧ 0 ≤ a.2.1 ∧ a.2.1.toNat < n
def sumD (D : List Int) (l : List Ar) : Int := (l.map fun a => valD D a.2.1.toNat).sum
structure CntOK (S : List St) (D : List Int) (ρ : Nat → Nat) (M : Nat) : Prop where
  len : D.length = S.length
  dom : ∀ i, i < S.length → -2 ≤ valD D i ∧ valD D i ≤ 4097
  few : ∀ i, i < S.length → 0 < valD D i → (arcsAt S i).length ≤ 256
  arcs : ∀ i, i < S.length → 0 < valD D i → ∀ a ∈ arcsAt S i, ArcIn S.length a ∧ 0 < valD D a.2.1.toNat ∧ ρ a.2.1.toNat < ρ i
  num : ∀ i, i < S.length → 0 < valD D i → valD D i = min 4097 ((if finAt S i then 1 else 0) + sumD D (arcsAt S i))
  top : ∀ i, i < S.length → 0 < valD D i → ρ i < M
/-- What is known agrees with the counts of a dictionary. -/
def AgreeD (S : List St) (D : List Int) (e : Nat → Nat) : Prop := ∀ i, i < S.length → 0 ≤ valD D i → valD D i = (e i : Int)
theorem valD_set (D : List Int) (i : Nat) (x : Int) (j : Nat) (hi : i < D.length) : valD (D.set i x) j = if j = i then x else valD D j := by
  unfold valD
  rw [List.getD_eq_getElem?_getD, List.getD_eq_getElem?_getD, List.getElem?_set]
  by_cases h : j = i
  · subst h; simp [hi]
  · rw [if_neg h, if_neg (fun e => h e.symm)]
theorem sumD_congr {D D' : List Int} {l : List Ar} (h : ∀ a ∈ l, valD D a.2.1.toNat = valD D' a.2.1.toNat) : sumD D l = sumD D' l := by
  unfold sumD
  rw [List.map_congr_left h]
theorem sumD_take {D : List Int} {l : List Ar} {k : Nat} {a : Ar} (h : l[k]? = some a) : sumD D (l.take (k + 1)) = sumD D (l.take k) + valD D a.2.1.toNat := by
  obtain ⟨hk, rfl⟩ := List.getElem?_eq_some_iff.1 h
  rw [sumD, List.take_succ_eq_append_getElem hk, List.map_append, List.sum_append]
  simp [sumD]
theorem sumD_nonneg {D : List Int} : ∀ {l : List Ar}, (∀ a ∈ l, 0 < valD D a.2.1.toNat) → 0 ≤ sumD D l
  | [], _ => by simp [sumD]
  | a :: t, h => by
    have h1 := h a (by simp)
    have h2 := sumD_nonneg (fun b hb => h b (List.mem_cons_of_mem _ hb) : ∀ b ∈ t, 0 < valD D b.2.1.toNat)
    unfold sumD at *
    rw [List.map_cons, List.sum_cons]
    omega
/-- A state that is under way, or was told bad, is put down. -/
theorem CntOK.put {S : List St} {D : List Int} {ρ : Nat → Nat} {M i : Nat} (h : CntOK S D ρ M) (hi : i < S.length) (h0 : valD D i ≤ 0) (x : Int) (hx : -2 ≤ x ∧ x ≤ 0) : CntOK S (D.set i x) ρ M := by
  have v := fun j => valD_set D i x j (by rw [h.len]; exact hi)
  have hpos : ∀ j, 0 < valD (D.set i x) j → j ≠ i ∧ 0 < valD D j := fun j hj => by
    rw [v] at hj
    by_cases hji : j = i
    · rw [if_pos hji] at hj; omega
    · rw [if_neg hji] at hj; exact ⟨hji, hj⟩
  have hto : ∀ j, j < S.length → 0 < valD D j → ∀ a ∈ arcsAt S j, valD (D.set i x) a.2.1.toNat = valD D a.2.1.toNat := fun j hj hp a ha => by
    have := (h.arcs j hj hp a ha).2.1
    rw [v, if_neg (fun e => by rw [e] at this; omega)]
  refine ⟨by simpa using h.len, fun j hj => ?_, fun j hj hp => h.few j hj (hpos j hp).2, fun j hj hp a ha => ?_, fun j hj hp => ?_, fun j hj hp => h.top j hj (hpos j hp).2⟩
  · rw [v]; split
    · omega
    · exact h.dom j hj
  · have h1 := h.arcs j hj (hpos j hp).2 a ha
    exact ⟨h1.1, by rw [hto j hj (hpos j hp).2 a ha]; exact h1.2.1, h1.2.2⟩
  · obtain ⟨hji, hp'⟩ := hpos j hp
    rw [v, if_neg hji, h.num j hj hp', sumD_congr (fun a ha => hto j hj hp' a ha)]
/-- A state whose arcs are all counted is counted. -/
theorem CntOK.count {S : List St} {D : List Int} {ρ : Nat → Nat} {M i : Nat} (h : CntOK S D ρ M) (hi : i < S.length) (h0 : valD D i ≤ 0) (hf : (arcsAt S i).length ≤ 256) (ha : ∀ a ∈ arcsAt S i, ArcIn S.length a ∧ 0 < valD D a.2.1.toNat) (x : Int) (hx : x = min 4097 ((if finAt S i then 1 else 0) + sumD D (arcsAt S i))) :
    CntOK S (D.set i x) (fun j => if j = i then M else ρ j) (M + 1) := by
  have v := fun j => valD_set D i x j (by rw [h.len]; exact hi)
  have hx0 : 0 ≤ x := by
    have := sumD_nonneg (fun a haa => (ha a haa).2)
    rw [hx]
    split <;> omega
  have hni : ∀ a ∈ arcsAt S i, a.2.1.toNat ≠ i := fun a haa e => by have := (ha a haa).2; rw [e] at this; omega
  have hto : ∀ j, j < S.length → 0 < valD D j → ∀ a ∈ arcsAt S j, a.2.1.toNat ≠ i := fun j hj hp a haa e => by have := (h.arcs j hj hp a haa).2.1; rw [e] at this; omega
  refine ⟨by simpa using h.len, fun j hj => ?_, fun j hj hp => ?_, fun j hj hp a haa => ?_, fun j hj hp => ?_, fun j hj hp => ?_⟩
  · rw [v]; split
    · refine ⟨by omega, ?_⟩
      rw [hx]; omega
    · exact h.dom j hj
  · by_cases hji : j = i
    · rw [hji]; exact hf
    · rw [v, if_neg hji] at hp; exact h.few j hj hp
  · by_cases hji : j = i
    · subst hji
      have h1 := ha a haa
      rw [v, if_neg (hni a haa)]
      refine ⟨h1.1, h1.2, ?_⟩
      rw [if_neg (hni a haa), if_pos rfl]
      exact h.top _ h1.1.2.2.2 h1.2
    · rw [v, if_neg hji] at hp
      have h1 := h.arcs j hj hp a haa
      rw [v, if_neg (hto j hj hp a haa), if_neg hji, if_neg (hto j hj hp a haa)]
      exact h1
  · by_cases hji : j = i
    · subst hji
      have e1 : sumD (D.set j x) (arcsAt S j) = sumD D (arcsAt S j) := sumD_congr fun a haa => by rw [v, if_neg (hni a haa)]
      rw [e1, v, if_pos rfl]; exact hx
    · rw [v, if_neg hji] at hp ⊢
      have e1 : sumD (D.set i x) (arcsAt S j) = sumD D (arcsAt S j) := sumD_congr fun a haa => by rw [v, if_neg (hto j hj hp a haa)]
      rw [e1]; exact h.num j hj hp
  · by_cases hji : j = i
    · rw [if_pos hji]; omega
    · rw [v, if_neg hji] at hp
      rw [if_neg hji]
      have := h.top j hj hp
      omega
end Go.Proofs.Ytbkedgpligcicaa

namespace Go.Proofs.Ytbkedgpligcicaa
open Go Go.RowKit
set_option linter.unusedVariables false
theorem Try.infoByte : (Try.prog.info? 5).map (fun i => (i.zero, i.size, i.bytes)) = some (some (.int .u8 0), 1, 1) := by kernel_rfl

/-- A row of one's own that has grown: what lay elsewhere lies as it lay; the row lies in the old block or in a new one. -/
def Grew (w w' : World) (v v' : Value) : Prop := w.grownBy w' v.ownBlock ∧ (v'.ownBlock = v.ownBlock ∨ ∃ k, v'.ownBlock = some k ∧ w.heap.size ≤ k)
theorem Grew.refl (w : World) (v : Value) : Grew w w v v := ⟨grown_refl _ _, Or.inl rfl⟩
theorem Grew.trans {a b c : World} {u v x : Value} (h : Grew a b u v) (k : Grew b c v x) : Grew a c u x := by
  obtain ⟨h1, h2⟩ := h
  obtain ⟨k1, k2⟩ := k
  refine ⟨⟨k1.os.trans h1.os, k1.tape.trans h1.tape, k1.output.trans h1.output, Nat.le_trans h1.size k1.size, fun i hi hne => ?_⟩, ?_⟩
  · refine (k1.block i (Nat.lt_of_lt_of_le hi h1.size) ?_).trans (h1.block i hi hne)
    rcases h2 with e | ⟨k, e, hk⟩
    · rw [e]; exact hne
    · rw [e]; intro e2; cases e2; omega
  · rcases k2 with e | ⟨k, e, hk⟩
    · rw [e]
      rcases h2 with e2 | ⟨k', e2, hk'⟩
      · exact Or.inl e2
      · exact Or.inr ⟨k', e2, hk'⟩
    · exact Or.inr ⟨k, e, Nat.le_trans h1.size hk⟩
theorem Grew.alloc {a b : World} {u v : Value} (h : Grew a b u v) (o : Obj) : Grew a (b.alloc o) u v :=
  ⟨⟨h.1.os, h.1.tape, h.1.output, by have := h.1.size; simp; omega, fun i hi hne => by rw [Below.heap_alloc _ _ _ (Nat.lt_of_lt_of_le hi h.1.size)]; exact h.1.block i hi hne⟩, h.2⟩
theorem Grew.below {a b : World} {u v : Value} {base e n : Nat} {xs : List Value} (h : Grew a b u v) (hb : base ≤ a.heap.size) (ho : a.ownsRow base e 1 u n xs) : Below base a b :=
  (Below.refl _ _).grown h.1 hb (own_block ho)
theorem Grew.of {w w1 w' : World} {v v' : Value} (h1 : Grew w w1 v v) (hg : w1.grownBy w' v.ownBlock) (ha : v'.ownBlock = v.ownBlock ∨ v'.ownBlock = some w1.heap.size) : Grew w w' v v' := by
  refine h1.trans ⟨hg, ?_⟩
  rcases ha with e | e
  · exact Or.inl e
  · exact Or.inr ⟨_, e, Nat.le_refl _⟩
theorem byte_cell1 (x : Nat) (h : x < 256) : Lib.byteCells [UInt8.ofNat x] = [Value.int .u8 (x : Int)] := by
  simp [Lib.byteCells]; omega
theorem byteCells_at (l : List UInt8) (j : Nat) (h : j < l.length) : (Lib.byteCells l)[j]? = some (.int .u8 ((l.getD j 0).toNat : Int)) := by
  simp [Lib.byteCells, h]

/-- A slice of bytes as it lies in a world. -/
def BytesAt (w : World) (b off : Nat) (bs : List UInt8) : Prop := ∀ t, t < bs.length → w.cell? ⟨b, off + t, none⟩ = some (.int .u8 ((bs.getD t 0).toNat : Int))
theorem BytesAt.below {w w' : World} {b off : Nat} {bs : List UInt8} (h : BytesAt w b off bs) (hb : Below w.heap.size w w') : BytesAt w' b off bs :=
  fun t ht => (hb.cell (p := ⟨b, off + t, none⟩) (cell_lt (h t ht))).trans (h t ht)
theorem own_bytes {w : World} {base e g n cap : Nat} {l : List UInt8} (h : w.ownsRow base e 1 (.slice (some ⟨g, 0, none⟩) n cap) n (Lib.byteCells l)) (hl : l.length = n) : BytesAt w g 0 l := by
  intro t ht
  rw [Nat.zero_add, h.cellAt t (by omega)]
  exact byteCells_at l t ht

end Go.Proofs.Ytbkedgpligcicaa

namespace Go.Proofs.Ytbkedgpligcicaa
open Go Go.RowKit
set_option linter.unusedVariables false

/-! The terms of states that were counted. -/
def rkOf (ρ : Nat → Nat) (n i : Nat) : Nat := (List.range n).countP fun j => decide (ρ j < ρ i)
theorem rkOf_le (ρ : Nat → Nat) (n i : Nat) : rkOf ρ n i ≤ n := by
  have := List.countP_le_length (p := fun j => decide (ρ j < ρ i)) (l := List.range n)
  rw [List.length_range] at this
  exact this
theorem countP_lt {p q : Nat → Bool} (h : ∀ x, p x = true → q x = true) : ∀ (l : List Nat) (x : Nat), x ∈ l → p x = false → q x = true → l.countP p < l.countP q
  | [], x, hx, _, _ => by simp at hx
  | a :: t, x, hx, h1, h2 => by
    have hle : ∀ l : List Nat, l.countP p ≤ l.countP q := fun l => List.countP_mono_left fun y _ => h y
    rw [List.countP_cons, List.countP_cons]
    rcases List.mem_cons.1 hx with rfl | hx
    · have := hle t
      simp [h1, h2]
      omega
    · have := countP_lt h t x hx h1 h2
      cases hp : p a with
      | true => simp [h a hp]; omega
      | false => cases hq : q a <;> simp <;> omega
theorem CntOK.rank {S : List St} {D : List Int} {ρ : Nat → Nat} {M : Nat} (h : CntOK S D ρ M) : CntOK S D (rkOf ρ S.length) (S.length + 1) := by
  refine ⟨h.len, h.dom, h.few, fun i hi hp a ha => ?_, h.num, fun i _ _ => by have := rkOf_le ρ S.length i; omega⟩
  obtain ⟨h1, h2, h3⟩ := h.arcs i hi hp a ha
  refine ⟨h1, h2, ?_⟩
  refine countP_lt (fun x hx => ?_) _ a.2.1.toNat (by simpa using h1.2.2.2) (by simp) (by simpa using h3)
  simp at hx ⊢
  omega
section
variable {S : List St} {D : List Int} {ρ : Nat → Nat} {M : Nat}
theorem CntOK.lang (h : CntOK S D ρ M) : ∀ (f f' i : Nat), i < S.length → 0 < valD D i → ρ i < f → ρ i < f' → langF S f i = langF S f' i
  | 0, f', i, _, _, h1, _ => absurd h1 (by omega)
  | f + 1, 0, i, _, _, _, h2 => absurd h2 (by omega)
  | f + 1, f' + 1, i, hi, hp, h1, h2 => by
    rw [langF_succ, langF_succ]
    congr 1
    refine List.map_congr_left fun a ha => ?_
    obtain ⟨h3, h4, h5⟩ := h.arcs i hi hp a ha
    rw [CntOK.lang h f f' a.2.1.toNat h3.2.2.2 h4 (by omega) (by omega)]
theorem sumD_ge : ∀ {l : List Ar}, (∀ a ∈ l, 0 < valD D a.2.1.toNat) → ∀ a ∈ l, valD D a.2.1.toNat ≤ sumD D l
  | [], _, a, ha => by simp at ha
  | b :: t, hl, a, ha => by
    have h1 := sumD_nonneg (D := D) (l := t) (fun x hx => hl x (by simp [hx]))
    have h2 := hl b (by simp)
    simp only [sumD, List.map_cons, List.sum_cons] at h1 ⊢
    rcases List.mem_cons.1 ha with rfl | ha
    · omega
    · have := sumD_ge (l := t) (fun x hx => hl x (by simp [hx])) a ha
      simp only [sumD] at this
      omega
theorem sumD_len : ∀ {l : List Ar} {g : Nat → Nat}, (∀ a ∈ l, valD D a.2.1.toNat = ((g a.2.1.toNat : Nat) : Int)) → sumD D l = (((l.map fun a => g a.2.1.toNat).sum : Nat) : Int)
  | [], g, _ => rfl
  | b :: t, g, hl => by
    have := sumD_len (l := t) (g := g) (fun x hx => hl x (by simp [hx]))
    have h2 := hl b (by simp)
    simp only [sumD, List.map_cons, List.sum_cons] at this ⊢
    rw [this, h2]
    omega
theorem CntOK.count_len (h : CntOK S D ρ M) : ∀ (f i : Nat), i < S.length → 0 < valD D i → valD D i ≤ 4096 → ρ i < f → (((langF S f i).length : Nat) : Int) = valD D i
  | 0, i, _, _, _, h1 => absurd h1 (by omega)
  | f + 1, i, hi, hp, hl, h1 => by
    have hn := h.num i hi hp
    have hpos : ∀ a ∈ arcsAt S i, 0 < valD D a.2.1.toNat := fun a ha => (h.arcs i hi hp a ha).2.1
    have hs := sumD_nonneg (D := D) hpos
    have hv : valD D i = (if finAt S i then 1 else 0) + sumD D (arcsAt S i) := by omega
    have hrec : ∀ a ∈ arcsAt S i, valD D a.2.1.toNat = (((langF S f a.2.1.toNat).length : Nat) : Int) := fun a ha => by
      obtain ⟨h3, h4, h5⟩ := h.arcs i hi hp a ha
      have h6 := sumD_ge (D := D) hpos a ha
      have h7 : (0 : Int) ≤ (if finAt S i then 1 else 0) := by split <;> omega
      exact (CntOK.count_len h f a.2.1.toNat h3.2.2.2 h4 (by omega) (by omega)).symm
    rw [langF_succ, joinT_length, hv, sumD_len (g := fun j => (langF S f j).length) hrec, rowF, List.map_map]
    simp only [Function.comp_def]
    split <;> omega
end
/-- What was told of a state, behind k of its arcs. -/
def toldT (S : List St) (f i k : Nat) : List Tx := joinT (finAt S i) ((rowF S f i).take k)
theorem toldT_all (S : List St) (f i : Nat) : toldT S f i (arcsAt S i).length = langF S (f + 1) i := by
  rw [toldT, langF_succ, List.take_of_length_le (by simp [rowF])]
theorem toldT_zero (S : List St) (f i : Nat) : toldT S f i 0 = if finAt S i then [[]] else [] := by simp [toldT, joinT]
theorem toldT_step (S : List St) (f i : Nat) {k : Nat} (h : k < (arcsAt S i).length) : toldT S f i (k + 1) = toldT S f i k ++ (langF S f ((arcsAt S i).getD k ar0).2.1.toNat).map fun t => UInt8.ofNat ((arcsAt S i).getD k ar0).1.toNat :: t := by
  have hk : (rowF S f i)[k]? = some (((arcsAt S i).getD k ar0).1.toNat, langF S f ((arcsAt S i).getD k ar0).2.1.toNat) := by
    rw [rowF, List.getElem?_map, List.getElem?_eq_getElem h]
    simp [h]
  rw [toldT, toldT, List.take_add_one, hk]
  simp only [joinT, Option.toList_some, List.flatMap_append, List.flatMap_cons, List.flatMap_nil, List.append_nil, List.append_assoc]
theorem toldT_len (S : List St) (f i k : Nat) : (toldT S f i k).length ≤ (langF S (f + 1) i).length := by
  rw [toldT, langF_succ, joinT_length, joinT_length]
  have : ∀ (l : List (Nat × List Tx)) (k : Nat), ((l.take k).map fun p => p.2.length).sum ≤ (l.map fun p => p.2.length).sum := by
    intro l
    induction l with
    | nil => simp
    | cons a t ih =>
      intro k
      cases k with
      | zero => simp
      | succ k => have := ih k; simp only [List.take_succ_cons, List.map_cons, List.sum_cons]; omega
  have := this (rowF S f i) k
  omega
end Go.Proofs.Ytbkedgpligcicaa

namespace Go.Proofs.Ytbkedgpligcicaa
open Go Go.RowKit
set_option linter.unusedVariables false
set_option linter.unusedSimpArgs false

/-! The operations of a region by hand. -/
theorem exec_move (W : World) (ρ : Operand → Value) (o : Oper) (x : Operand) (ho : o.op = .move x) (v : Value) (hx : ρ x = v) : (execOp ρ o).run Try.prog W = .ok (.value v) W := by
  unfold execOp
  simp only [ho, Sem.run_pure, hx]
theorem exec_assign (W : World) (ρ : Operand → Value) (o : Oper) (x : Operand) (ho : o.op = .assign x) (v : Value) (hx : ρ x = v) : (execOp ρ o).run Try.prog W = .ok (.value v) W := by
  unfold execOp
  simp only [ho, Sem.run_pure, hx]
theorem exec_pick (W : World) (ρ : Operand → Value) (o : Oper) (c x y : Operand) (ho : o.op = .pick c x y) (b : Bool) (hc : ρ c = .bool b) (v : Value) (hv : (if b then ρ x else ρ y) = v) : (execOp ρ o).run Try.prog W = .ok (.value v) W := by
  unfold execOp
  cases b <;> simp_all [asBool]
theorem exec_field1 (W : World) (ρ : Operand → Value) (o : Oper) (x : Operand) (ho : o.op = .fieldAddr 128 x 1) (b : Nat) (hx : ρ x = .pointer (some ⟨b, 0, none⟩)) : (execOp ρ o).run Try.prog W = .ok (.value (.pointer (some ⟨b, 1, none⟩))) W := by
  unfold execOp
  simp only [ho, hx, Sem.run_bind, Sem.run_pure, Result.andThen_ok]
  go_simp
theorem exec_loadInts (W : World) (ρ : Operand → Value) (o : Oper) (x : Operand) (ho : o.op = .load 66 x) (b off : Nat) (v : Value) (hx : ρ x = .pointer (some ⟨b, off, none⟩)) (h0 : W.cell? ⟨b, off, none⟩ = some v) : (execOp ρ o).run Try.prog W = .ok (.value v) W := by
  unfold execOp
  simp only [ho, Instr.loadAt, Instr.sureAddr, hx, Sem.run_bind, Sem.run_pure, Result.andThen_ok]
  go_simp
theorem exec_call3 (W : World) (a : Act) (o : Oper) (f : FuncId) (x y z : Operand) (t u s : TypeId) (ho : o.op = .call { callee := .value (.func f), args := #[x, y, z], argTypes := #[t, u, s] }) (v1 v2 v3 : Value) (h1 : a.eval x = v1) (h2 : a.eval y = v2) (h3 : a.eval z = v3)
    (hf : (callFunc f #[v1, v2, v3]).run Try.prog W = .ok (.enter f #[v1, v2, v3]) W) : (execOp a.eval o).run Try.prog W = .ok (.enter f #[v1, v2, v3]) W := by
  have hfn : a.eval (.func f) = .func (.func f) #[] #[] := rfl
  unfold execOp
  simp [ho, resolve, invoke, Deferred.ofValue, hfn, h1, h2, h3, hf]
theorem exec_call1 (W : World) (a : Act) (o : Oper) (f : FuncId) (x : Operand) (t : TypeId) (ho : o.op = .call { callee := .value (.func f), args := #[x], argTypes := #[t] }) (v : Value) (hx : a.eval x = v)
    (hf : (callFunc f #[v]).run Try.prog W = .ok (.enter f #[v]) W) : (execOp a.eval o).run Try.prog W = .ok (.enter f #[v]) W := by
  have hfn : a.eval (.func f) = .func (.func f) #[] #[] := rfl
  unfold execOp
  simp [ho, resolve, invoke, Deferred.ofValue, hfn, hx, hf]
section
variable {ops : Array Oper} {Q : Exit → Act → World → Prop} {K : Act → World → Prop} {a : Act} {w : World}
theorem wpOp_call {i : Nat} {o : Oper} (f : FuncId) (args : Array Value) (hi : ops[i]? = some o) (hw : Region.wanted o (yielded ops a.tmps) = true) (ho : (execOp a.eval o).run Try.prog w = .ok (.enter f args) w)
    (h : Calls Try.prog f args w fun e w' => match e, w' with
      | .returned v, w'' => K (a.put o.dst v) w''
      | .panicked c, w'' => Q (.panic c) a w''
      | .outgrown, _ => LetsOut Q) : wpOp Try.prog ops Q i K a w := by
  unfold wpOp
  simp only [hi, hw, if_true, Oper.wp, ho, Oper.upon]
  exact .inl h
theorem wpOp_val {i : Nat} {o : Oper} (v : Value) (w' : World) (hi : ops[i]? = some o) (hw : Region.wanted o (yielded ops a.tmps) = true) (ho : (execOp a.eval o).run Try.prog w = .ok (.value v) w')
    (h : K (a.put o.dst v) w') : wpOp Try.prog ops Q i K a w := by
  unfold wpOp
  simp only [hi, hw, if_true, Oper.wp, ho, Oper.upon]
  exact .inl h
theorem wpOp_wp {i : Nat} {o : Oper} (hi : ops[i]? = some o) (hw : Region.wanted o (yielded ops a.tmps) = true) (h : o.wp Try.prog a w K Q) : wpOp Try.prog ops Q i K a w := by
  unfold wpOp
  simp only [hi, hw, if_true]
  exact .inl h
theorem wpAnyH_one {md : Region.Mode} {S : World → Prop} (i : Nat) {fuel : Nat} {listed : Array Bool} (hr : Region.ready md ops listed = [i])
    (h : wpOp Try.prog ops Q i (fun a' w' => S w' ∧ wpAnyH Try.prog md ops Q S fuel (listed.setIfInBounds i true) a' w') a w) : wpAnyH Try.prog md ops Q S (fuel + 1) listed a w :=
  wpAnyH_all hr (by simp) (fun j hj => by
    have e : j = i := by simpa using hj
    subst e
    exact h)
end
end Go.Proofs.Ytbkedgpligcicaa
