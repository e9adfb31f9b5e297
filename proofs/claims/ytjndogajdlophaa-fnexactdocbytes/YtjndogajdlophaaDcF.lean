import Derived.Test.YtjndogajdlophaaDcE
import Derived.Test.YtjndogajdlophaaDcM
import Derived.Test.YtjndogajdlophaaWithin
namespace Go.Proofs.Ytjndogajdlophaa
open Go Go.RowKit
set_option linter.unusedVariables false

theorem getD_drop {l : List Ar} {k : Nat} (h : k < l.length) : l.drop k = l.getD k ar0 :: l.drop (k + 1) := by
  rw [List.drop_eq_getElem_cons h]; simp [h]
theorem getD_dropS {l : List St} {k : Nat} (h : k < l.length) : l.drop k = l.getD k st0 :: l.drop (k + 1) := by
  rw [List.drop_eq_getElem_cons h]; simp [h]

set_option maxHeartbeats 4000000 in
set_option maxRecDepth 100000 in
theorem metInOrder_any (a : Option Addr) (c : Nat) (S : List St) (w : World) (hn : S.length ≤ 1048576) (hA : ∀ i, (arcsAt S i).length ≤ 1048576) (h1 : HoldS w a S) :
    Calls Try.prog 73 #[.slice a S.length c] w fun e w' => e = .returned (.bool (metOK S)) ∧ Below w.heap.size w w' := by
  obtain ⟨R, hR⟩ : ∃ R, metOK S = R := ⟨_, rfl⟩
  rw [hR]
  have H1 := hidd h1
  have HAr := hidd hA
  clear h1 hA
  by_cases hlen : 1 ≤ S.length ∧ S.length ≤ 16384
  · have HR : Hid (metGo S.length 0 1 S = R) := by
      show _ = _
      rw [← hR, metOK, decide_eq_true hlen, Bool.true_and]
    have hb : (decide ((1 : Int) ≤ (S.length : Int)) && decide ((S.length : Int) ≤ 16384)) = true := by simp; omega
    clear hR
    go_enter Try.func73, Try.ntmps73
    go_wp2_with fail
    refine (within_any _ _ _ _).mono ?_
    rintro e w' ⟨rfl, hw'⟩
    obtain rfl := hw'.symm
    clear hw'
    rw [hb]
    go_wp2_with fail
    generalize hN : S.length = N at *
    go_loopw [3, 15] (fun mv iv wr => ∃ i met : Nat, i ≤ N ∧ met ≤ N ∧ 1 ≤ met ∧ iv = .int .i64 (i : Int) ∧ mv = .int .i64 (met : Int) ∧ metGo N i met (S.drop i) = R ∧ Below w.heap.size w wr) (fun _ iv _ => N - (intOf iv).toNat)
    case atStart => exact ⟨0, 1, by omega, by omega, by omega, rfl, rfl, by rw [List.drop_zero]; exact HR.out, Below.refl _ _⟩
    case round =>
      clear HR
      obtain ⟨i, met, hi, hmet, hmet1, rfl, rfl, hgo, hbel⟩ := hrel
      have HG := hidd hgo
      have HB := hidd hbel
      have hwz := hbel.size
      clear hgo hbel
      by_cases hlt : i < N
      · have hiz : (i : Int) < (N : Int) := by omega
        obtain ⟨b, off, rfl, hbl, hc⟩ := (H1.out.below HB.out).resolve_left (fun h => by rw [h] at hN; simp at hN; omega)
        obtain ⟨x0, ai, ci, x1, hha⟩ := hc i (by omega)
        clear hc
        have HD := hidd (getD_dropS (show i < S.length by omega))
        rw [HD.out] at HG
        have hal := HAr.out i
        rw [arcsAt] at hal
        have HHA := hidd hha
        clear hha HD
        obtain ⟨s, hs⟩ : ∃ s, S.getD i st0 = s := ⟨_, rfl⟩
        rw [hs] at x0 x1 HHA HG hal
        clear hs
        obtain ⟨f, l⟩ := s
        dsimp only at x0 x1 HHA HG hal
        have HBb : Hid (Below wr.heap.size wr (wr.alloc (.cells #[.bool f, .slice ai l.length ci] 104))) := (Below.refl _ _).alloc (Nat.le_refl _) _
        have Hbx := hidd (heap_alloc_new wr (.cells #[.bool f, .slice ai l.length ci] 104))
        rw [metGo] at HG
        by_cases him : i = met
        · rw [if_pos him] at HG
          subst him
          go_wp2_with fail
          go_ret
          rw [← HG.out]
          exact ⟨rfl, HB.out.trans (HBb.out.mono hwz)⟩
        · have himz : ((i : Int) == (met : Int)) = false := beq_eq_false_iff_ne.2 (by omega)
          rw [if_neg him] at HG
          have HH2 := hidd (HHA.out.below HBb.out)
          go_wp2_with fail
          generalize wr.alloc (.cells #[.bool f, .slice ai l.length ci] 104) = wb at *
          have HB2 := hidd (HB.out.trans (HBb.out.mono hwz))
          clear HBb Hbx HB HHA x0 x1
          go_loopw [3, 6, 26] (fun mv lv jv wx => ∃ (j mt : Nat) (last : Int), j ≤ l.length ∧ mt ≤ N ∧ 1 ≤ mt ∧ -1 ≤ last ∧ last ≤ 255 ∧ jv = .int .i64 (j : Int) ∧ mv = .int .i64 (mt : Int) ∧ lv = .int .i64 last ∧ (match arcGo N mt last (l.drop j) with
              | none => false
              | some m => metGo N (i + 1) m (S.drop (i + 1))) = R ∧ Below wb.heap.size wb wx) (fun _ _ jv _ => l.length - (intOf jv).toNat)
          case atStart => exact ⟨0, met, -1, by omega, hmet, hmet1, by omega, by omega, rfl, rfl, rfl, by rw [List.drop_zero]; exact HG.out, Below.refl _ _⟩
          case round =>
            clear HG
            obtain ⟨j, mt, last, hj, hmt, hmt1, hl0, hl1, rfl, rfl, rfl, hgo, hbx⟩ := hrel
            have HG := hidd hgo
            have HX := hidd hbx
            have hxz := hbx.size
            clear hgo hbx
            by_cases hjl : j < l.length
            · have hjz : (j : Int) < (l.length : Int) := by omega
              obtain ⟨b2, o2, rfl, hb2, hc2⟩ := (HH2.out.below HX.out).resolve_left (fun h => by rw [h] at hjl; simp at hjl)
              obtain ⟨y0, y1, y2⟩ := hc2 j hjl
              clear hc2
              rw [getD_drop hjl] at HG
              obtain ⟨p, hp⟩ : ∃ p, l.getD j ar0 = p := ⟨_, rfl⟩
              rw [hp] at y0 y1 y2 HG
              clear hp
              obtain ⟨p0, p1, p2⟩ := p
              dsimp only at y0 y1 y2
              rw [arcGo] at HG
              dsimp only at HG
              have HBc := hidd (HX.out.alloc hxz (.cells #[.int .i64 p0, .int .i64 p1, .int .i64 p2] 110))
              by_cases hlab : last + 1 ≤ p0 ∧ p0 ≤ 255
              · have hlb : (decide (last + 1 ≤ p0) && decide (p0 ≤ 255)) = true := by simp; omega
                by_cases hmn : (mt : Int) ≤ (N : Int) - 1
                · have hme : min (mt : Int) ((N : Int) - 1) = (mt : Int) := by omega
                  rw [hme] at HG
                  by_cases hto : 0 ≤ p1 ∧ p1 ≤ (mt : Int)
                  · have htb : (decide ((0 : Int) ≤ p1) && decide (p1 ≤ (mt : Int))) = true := by simp; omega
                    rw [if_pos ⟨hlab.1, hlab.2, hto.1, hto.2⟩] at HG
                    go_wp2_with fail
                    refine (within_any _ _ _ _).mono ?_
                    rintro e w' ⟨rfl, hw'⟩
                    obtain rfl := hw'.symm
                    clear hw'
                    rw [hlb]
                    go_wp2_with fail
                    refine (within_any _ _ _ _).mono ?_
                    rintro e w' ⟨rfl, hw'⟩
                    obtain rfl := hw'.symm
                    clear hw'
                    rw [htb]
                    by_cases heq : p1 = (mt : Int)
                    · subst heq
                      rw [if_pos rfl] at HG
                      go_wp2_with fail
                      go_roundw
                      case rel => exact ⟨j + 1, mt + 1, p0, by omega, by omega, by omega, by omega, by omega, by go_num, by go_num, rfl, HG.out, HBc.out⟩
                      case measure => simp [intOf]; omega
                    · have heqz : (p1 == (mt : Int)) = false := beq_eq_false_iff_ne.2 heq
                      rw [if_neg heq] at HG
                      go_wp2_with fail
                      go_roundw
                      case rel => exact ⟨j + 1, mt, p0, by omega, by omega, by omega, by omega, by omega, by go_num, rfl, rfl, HG.out, HBc.out⟩
                      case measure => simp [intOf]; omega
                  · have htb : (decide ((0 : Int) ≤ p1) && decide (p1 ≤ (mt : Int))) = false := by
                      cases hq : (decide ((0 : Int) ≤ p1) && decide (p1 ≤ (mt : Int))) with
                      | false => rfl
                      | true => simp at hq; omega
                    rw [if_neg (fun h => hto ⟨h.2.2.1, h.2.2.2⟩)] at HG
                    go_wp2_with fail
                    refine (within_any _ _ _ _).mono ?_
                    rintro e w' ⟨rfl, hw'⟩
                    obtain rfl := hw'.symm
                    clear hw'
                    rw [hlb]
                    go_wp2_with fail
                    refine (within_any _ _ _ _).mono ?_
                    rintro e w' ⟨rfl, hw'⟩
                    obtain rfl := hw'.symm
                    clear hw'
                    rw [htb]
                    go_wp2_with fail
                    go_ret
                    rw [← HG.out]
                    exact ⟨rfl, HB2.out.trans (HBc.out.mono HB2.out.size)⟩
                · have hme : min (mt : Int) ((N : Int) - 1) = (N : Int) - 1 := by omega
                  rw [hme] at HG
                  by_cases hto : 0 ≤ p1 ∧ p1 ≤ (N : Int) - 1
                  · have htb : (decide ((0 : Int) ≤ p1) && decide (p1 ≤ (N : Int) - 1)) = true := by simp; omega
                    rw [if_pos ⟨hlab.1, hlab.2, hto.1, hto.2⟩] at HG
                    go_wp2_with fail
                    refine (within_any _ _ _ _).mono ?_
                    rintro e w' ⟨rfl, hw'⟩
                    obtain rfl := hw'.symm
                    clear hw'
                    rw [hlb]
                    go_wp2_with fail
                    refine (within_any _ _ _ _).mono ?_
                    rintro e w' ⟨rfl, hw'⟩
                    obtain rfl := hw'.symm
                    clear hw'
                    rw [htb]
                    by_cases heq : p1 = (mt : Int)
                    · exfalso; omega
                    · have heqz : (p1 == (mt : Int)) = false := beq_eq_false_iff_ne.2 heq
                      rw [if_neg heq] at HG
                      go_wp2_with fail
                      go_roundw
                      case rel => exact ⟨j + 1, mt, p0, by omega, by omega, by omega, by omega, by omega, by go_num, rfl, rfl, HG.out, HBc.out⟩
                      case measure => simp [intOf]; omega
                  · have htb : (decide ((0 : Int) ≤ p1) && decide (p1 ≤ (N : Int) - 1)) = false := by
                      cases hq : (decide ((0 : Int) ≤ p1) && decide (p1 ≤ (N : Int) - 1)) with
                      | false => rfl
                      | true => simp at hq; omega
                    rw [if_neg (fun h => hto ⟨h.2.2.1, h.2.2.2⟩)] at HG
                    go_wp2_with fail
                    refine (within_any _ _ _ _).mono ?_
                    rintro e w' ⟨rfl, hw'⟩
                    obtain rfl := hw'.symm
                    clear hw'
                    rw [hlb]
                    go_wp2_with fail
                    refine (within_any _ _ _ _).mono ?_
                    rintro e w' ⟨rfl, hw'⟩
                    obtain rfl := hw'.symm
                    clear hw'
                    rw [htb]
                    go_wp2_with fail
                    go_ret
                    rw [← HG.out]
                    exact ⟨rfl, HB2.out.trans (HBc.out.mono HB2.out.size)⟩
              · have hlb : (decide (last + 1 ≤ p0) && decide (p0 ≤ 255)) = false := by
                  cases hq : (decide (last + 1 ≤ p0) && decide (p0 ≤ 255)) with
                  | false => rfl
                  | true => simp at hq; omega
                rw [if_neg (fun h => hlab ⟨h.1, h.2.1⟩)] at HG
                go_wp2_with fail
                refine (within_any _ _ _ _).mono ?_
                rintro e w' ⟨rfl, hw'⟩
                obtain rfl := hw'.symm
                clear hw'
                rw [hlb]
                go_wp2_with fail
                go_ret
                rw [← HG.out]
                exact ⟨rfl, HB2.out.trans (HBc.out.mono HB2.out.size)⟩
            · have hjz : ¬ (j : Int) < (l.length : Int) := by omega
              rw [List.drop_of_length_le (by omega), arcGo] at HG
              go_wp2_with fail
              go_roundw
              case rel => exact ⟨i + 1, mt, by omega, hmt, hmt1, by go_num, rfl, HG.out, HB2.out.trans (HX.out.mono HB2.out.size)⟩
              case measure => simp [intOf]; omega
      · have hiz : ¬ (i : Int) < (N : Int) := by omega
        rw [List.drop_of_length_le (by omega), metGo] at HG
        go_wp2_with fail
        go_ret
        rw [← HG.out]
        exact ⟨rfl, HB.out⟩
  · have hb : (decide ((1 : Int) ≤ (S.length : Int)) && decide ((S.length : Int) ≤ 16384)) = false := by
      cases hq : (decide ((1 : Int) ≤ (S.length : Int)) && decide ((S.length : Int) ≤ 16384)) with
      | false => rfl
      | true => simp at hq; omega
    have HR : Hid (R = false) := by
      show _ = _
      rw [← hR, metOK, decide_eq_false hlen, Bool.false_and]
    clear hR
    go_enter Try.func73, Try.ntmps73
    go_wp2_with fail
    refine (within_any _ _ _ _).mono ?_
    rintro e w' ⟨rfl, hw'⟩
    obtain rfl := hw'.symm
    clear hw'
    rw [hb]
    go_wp2_with fail
    go_ret
    rw [HR.out]
    exact ⟨rfl, Below.refl _ _⟩
end Go.Proofs.Ytjndogajdlophaa
