import Derived.Test.YtibomnmgiimejadPkJu
import Derived.Test.YtibomnmgiimejadPkZ
import Derived.Test.YtibomnmgiimejadPkK
namespace Go.Proofs.Ytibomnmgiimejad
open Go Go.RowKit
set_option linter.unusedVariables false

def riseOut (zs : List Int) : List UInt8 × Int :=
  if 4096 < zs.length then ([], 2) else if zs.all putOK then (if riseG 0 (numsOf zs) then (packL (gapsG 0 (numsOf zs)), 0) else ([], 17)) else ([], 12)
theorem riseOut_long {zs : List Int} (h : 4096 < zs.length) : riseOut zs = ([], 2) ∧ numsCode zs = 2 := by rw [riseOut, if_pos h, numsCode, if_pos h]; exact ⟨rfl, rfl⟩
theorem riseOut_bad {zs : List Int} (h : ¬ 4096 < zs.length) (ha : zs.all putOK = false) : riseOut zs = ([], 12) ∧ numsCode zs = 12 := by rw [riseOut, if_neg h, numsCode, if_neg h, ha]; exact ⟨rfl, rfl⟩
theorem riseOut_fall {zs : List Int} (h : ¬ 4096 < zs.length) (ha : zs.all putOK = true) (hr : riseG 0 (numsOf zs) = false) : riseOut zs = ([], 17) ∧ numsCode zs = 0 := by rw [riseOut, if_neg h, numsCode, if_neg h, ha, hr]; exact ⟨rfl, rfl⟩
theorem riseOut_good {zs : List Int} (h : ¬ 4096 < zs.length) (ha : zs.all putOK = true) (hr : riseG 0 (numsOf zs) = true) : riseOut zs = (packL (gapsG 0 (numsOf zs)), 0) ∧ numsCode zs = 0 := by rw [riseOut, if_neg h, numsCode, if_neg h, ha, hr]; exact ⟨rfl, rfl⟩
theorem riseOut_len (zs : List Int) : (riseOut zs).1.length ≤ 50000 := by
  by_cases h : 4096 < zs.length
  · rw [(riseOut_long h).1]; simp
  · cases ha : zs.all putOK with
    | false => rw [(riseOut_bad h ha).1]; simp
    | true =>
      cases hr : riseG 0 (numsOf zs) with
      | false => rw [(riseOut_fall h ha hr).1]; simp
      | true => rw [(riseOut_good h ha hr).1]; exact packL_len _ (by rw [gapsG_length, numsOf_length]; omega) (gapsG_62 _ 0 (numsOf_62 ha))
theorem own_nums {w : World} {base e g n cap : Nat} {vs : List Nat} (h : w.ownsRow base e 1 (.slice (some ⟨g, 0, none⟩) n cap) n (iCells vs)) (hl : vs.length = n) : NumsAt .i64 w g 0 vs := by
  intro t ht
  rw [Nat.zero_add, h.cellAt t (by omega)]
  simp [iCells, ht]
theorem own_numsU {w : World} {base e g n cap : Nat} {vs : List Nat} (h : w.ownsRow base e 1 (.slice (some ⟨g, 0, none⟩) n cap) n (uCells vs)) (hl : vs.length = n) : NumsAt .u64 w g 0 vs := by
  intro t ht
  rw [Nat.zero_add, h.cellAt t (by omega)]
  exact uCells_get vs t ht
theorem own_cap {w : World} {base e g n cap : Nat} {xs : List Value} (h : w.ownsRow base e 1 (.slice (some ⟨g, 0, none⟩) n cap) n xs) : n ≤ cap ∧ g < w.heap.size := by
  rcases h.2 with ⟨h', _⟩ | ⟨g', cap', cur, h', _, hg, hc, _⟩
  · simp at h'
  · simp only [Value.slice.injEq, Option.some.injEq, Addr.mk.injEq, and_true, true_and] at h'
    obtain ⟨rfl, rfl⟩ := h'
    exact ⟨hc, (Array.getElem?_eq_some_iff.1 hg).1⟩

set_option maxHeartbeats 4000000 in
set_option maxRecDepth 100000 in
theorem specPackRising_any (b off cap : Nat) (zs : List Int) (w : World) (hl : zs.length ≤ 1048576) (hcap : zs.length ≤ cap) (hbw : b < w.heap.size) (hc : IntsAt w b off zs) :
    Calls Try.prog 14 #[.slice (some ⟨b, off, none⟩) zs.length cap] w fun e w' => ∃ v', e = .returned (.tuple #[v', .int .i64 (riseOut zs).2]) ∧ w'.ownsRow w.heap.size 5 1 v' (riseOut zs).1.length (Lib.byteCells (riseOut zs).1) ∧ Below w.heap.size w w' := by
  have Hc := hidd hc
  clear hc
  by_cases hlong : 4096 < zs.length
  · have hlz : (4096 : Int) < (zs.length : Int) := by omega
    have HE := hidd (riseOut_long hlong).1
    go_enter Try.func14, Try.ntmps14
    go_wp2
    go_ret2
    rw [HE.out]
    exact ⟨_, rfl, own_empty w 5, (Below.refl _ _).alloc (Nat.le_refl _) _⟩
  · have hlz : ¬ (4096 : Int) < (zs.length : Int) := by omega
    cases ha : zs.all putOK with
    | false =>
      have HA := hidd ha
      have HE := hidd (riseOut_bad hlong ha).1
      clear ha
      go_enter Try.func14, Try.ntmps14
      go_wp2_with fail
      refine (allNums_any b off cap zs _ hl Hc.out).mono ?_
      rintro e w' ⟨rfl, hw'⟩
      obtain rfl := hw'.symm
      clear hw'
      rw [HA.out]
      go_wp2
      go_ret2
      rw [HE.out]
      exact ⟨_, rfl, own_empty w 5, (Below.refl _ _).alloc (Nat.le_refl _) _⟩
    | true =>
      have HA := hidd ha
      have HN := hidd (Hc.out.nums ha)
      have Hn62 := hidd (numsOf_62 ha)
      have hnl := numsOf_length zs
      have HRi : Hid (∀ W, NumsAt .i64 W b off (numsOf zs) → Calls Try.prog 42 #[.slice (some ⟨b, off, none⟩) zs.length cap] W fun e w' => e = .returned (.bool (riseG 0 (numsOf zs))) ∧ ∃ m, w' = W.drewN m) := by
        intro W hW
        have := rising_any b off cap (numsOf zs) W (by omega) Hn62.out hW
        rw [hnl] at this
        exact this
      cases hr : riseG 0 (numsOf zs) with
      | false =>
        have HE := hidd (riseOut_fall hlong ha hr).1
        have HRf := hidd hr
        clear ha hr
        go_enter Try.func14, Try.ntmps14
        go_wp2_with fail
        refine (allNums_any b off cap zs _ hl Hc.out).mono ?_
        rintro e w' ⟨rfl, hw'⟩
        obtain rfl := hw'.symm
        clear hw'
        rw [HA.out]
        go_wp2_with fail
        refine (HRi.out _ HN.out).mono ?_
        rintro e w1 ⟨rfl, m, rfl⟩
        rw [HRf.out]
        go_wp2
        go_ret2
        rw [HE.out]
        exact ⟨_, rfl, own_mono (own_empty (w.drewN m) 5) (Nat.le_refl _), (below_drewN (Below.refl _ w) m).alloc (Nat.le_refl _) _⟩
      | true =>
        have HE := hidd (riseOut_good hlong ha hr).1
        have HRf := hidd hr
        clear ha
        have HGp : Hid (∀ m, Calls Try.prog 43 #[.slice (some ⟨b, off, none⟩) zs.length cap] (w.drewN m) fun e w' => ∃ v', e = .returned v' ∧ w'.ownsRow w.heap.size 3 1 v' zs.length (iCells (gapsG 0 (numsOf zs))) ∧ v' ≠ .slice none 0 0 ∧ Below w.heap.size (w.drewN m) w') := by
          intro m
          have := specGaps_any b off cap (numsOf zs) (w.drewN m) (by omega) Hn62.out hbw hr HN.out
          rw [hnl] at this
          exact this
        clear hr
        go_enter Try.func14, Try.ntmps14
        go_wp2_with fail
        refine (allNums_any b off cap zs _ hl Hc.out).mono ?_
        rintro e w' ⟨rfl, hw'⟩
        obtain rfl := hw'.symm
        clear hw'
        rw [HA.out]
        go_wp2_with fail
        refine (HRi.out _ HN.out).mono ?_
        rintro e w1 ⟨rfl, m, rfl⟩
        rw [HRf.out]
        go_wp2_with fail
        refine (HGp.out m).mono ?_
        rintro e w2 ⟨v2, rfl, ho2, hn2, hb2⟩
        rcases own_cases ho2 with ⟨rfl, _⟩ | ⟨g2, cp2, rfl, _, _⟩
        · exact absurd rfl hn2
        have hcp := own_cap ho2
        have HB2 : Hid (Below w.heap.size w w2) := (below_drewN (Below.refl _ w) m).trans hb2
        have hgl : (gapsG 0 (numsOf zs)).length = zs.length := by rw [gapsG_length, hnl]
        have HP : Hid (Calls Try.prog 34 #[.slice (some ⟨g2, 0, none⟩) zs.length cp2] w2 fun e w' => ∃ g cap', e = .returned (.slice (some ⟨g, 0, none⟩) (packL (gapsG 0 (numsOf zs))).length cap') ∧ w'.ownsRow w2.heap.size 5 1 (.slice (some ⟨g, 0, none⟩) (packL (gapsG 0 (numsOf zs))).length cap') (packL (gapsG 0 (numsOf zs))).length (Lib.byteCells (packL (gapsG 0 (numsOf zs)))) ∧ Below w2.heap.size w2 w') := by
          have := specPack_any g2 0 cp2 (gapsG 0 (numsOf zs)) w2 (by omega) (by omega) (gapsG_62 _ 0 Hn62.out) (own_nums ho2 hgl)
          rw [hgl] at this
          exact this
        clear ho2 hn2 hb2
        go_wp2_with fail
        refine HP.out.mono ?_
        rintro e w3 ⟨g3, cp3, rfl, ho3, hb3⟩
        have R := hidd (And.intro (own_mono ho3 HB2.out.size) (HB2.out.trans (hb3.mono HB2.out.size)))
        clear ho3 hb3
        go_wp2
        go_ret2
        rw [HE.out]
        exact ⟨_, rfl, R.out.1, R.out.2⟩

set_option maxHeartbeats 4000000 in
set_option maxRecDepth 100000 in
theorem implPackRising_any (b off cap : Nat) (zs : List Int) (w : World) (hcap : zs.length ≤ cap) (hbw : b < w.heap.size) (hc : IntsAt w b off zs) :
    Calls Try.prog 13 #[.slice (some ⟨b, off, none⟩) zs.length cap] w fun e w' => ∃ v', e = .returned (.tuple #[v', .int .i64 (riseOut zs).2]) ∧ w'.ownsRow w.heap.size 5 1 v' (riseOut zs).1.length (Lib.byteCells (riseOut zs).1) ∧ Below w.heap.size w w' := by
  have Hc := hidd hc
  clear hc
  have bad : ∀ c : Int, c ≠ 0 → numsCode zs = c → riseOut zs = ([], c) → Calls Try.prog 13 #[.slice (some ⟨b, off, none⟩) zs.length cap] w fun e w' => ∃ v', e = .returned (.tuple #[v', .int .i64 (riseOut zs).2]) ∧ w'.ownsRow w.heap.size 5 1 v' (riseOut zs).1.length (Lib.byteCells (riseOut zs).1) ∧ Below w.heap.size w w' := by
    intro c hc0 h1 h2
    have H1 := hidd h1
    have H2 := hidd h2
    have hcn : (c != 0) = true := by simp [hc0]
    clear h1 h2
    go_enter Try.func13, Try.ntmps13
    go_wp2_with fail
    refine (numbersCode_any b off cap zs _ Hc.out).mono ?_
    rintro e w' ⟨rfl, hw'⟩
    obtain rfl := hw'.symm
    clear hw'
    rw [H1.out]
    go_wp2
    go_ret2
    rw [H2.out]
    exact ⟨_, rfl, World.ownsRow_nil _ _ _ _, Below.refl _ _⟩
  by_cases hlong : 4096 < zs.length
  · exact bad 2 (by omega) (riseOut_long hlong).2 (riseOut_long hlong).1
  · cases ha : zs.all putOK with
    | false => exact bad 12 (by omega) (riseOut_bad hlong ha).2 (riseOut_bad hlong ha).1
    | true =>
      clear bad
      have Hn62 := hidd (numsOf_62 ha)
      have hnl := numsOf_length zs
      have HGa : Hid (Calls Try.prog 40 #[.slice (some ⟨b, off, none⟩) zs.length cap] w fun e w' => Below w.heap.size w w' ∧
          ((riseG 0 (numsOf zs) = false ∧ e = .returned (.tuple #[.slice none 0 0, .bool false])) ∨ (riseG 0 (numsOf zs) = true ∧ e = .returned (.tuple #[.slice (some ⟨w.heap.size, 0, none⟩) zs.length zs.length, .bool true]) ∧ w'.ownsRow w.heap.size 67 1 (.slice (some ⟨w.heap.size, 0, none⟩) zs.length zs.length) zs.length (uCells (gapsG 0 (numsOf zs)))))) := by
        have := gapsOf_any b off cap (numsOf zs) w (by omega) Hn62.out hbw (Hc.out.nums ha)
        rw [hnl] at this
        exact this
      have HA := hidd ha
      have H1 : Hid (numsCode zs = 0) := by show _ = _; rw [numsCode, if_neg hlong, ha]; rfl
      clear ha
      go_enter Try.func13, Try.ntmps13
      go_wp2_with fail
      refine (numbersCode_any b off cap zs _ Hc.out).mono ?_
      rintro e w' ⟨rfl, hw'⟩
      obtain rfl := hw'.symm
      clear hw'
      rw [H1.out]
      go_wp2_with fail
      refine HGa.out.mono ?_
      rintro e w1 ⟨hb1, h⟩
      have HB1 := hidd hb1
      clear hb1
      rcases h with ⟨hr, rfl⟩ | ⟨hr, rfl, ho1⟩
      · have HE := hidd (riseOut_fall hlong HA.out hr).1
        clear hr
        go_wp2
        go_ret2
        rw [HE.out]
        exact ⟨_, rfl, World.ownsRow_nil _ _ _ _, HB1.out⟩
      · have HE := hidd (riseOut_good hlong HA.out hr).1
        have hgl : (gapsG 0 (numsOf zs)).length = zs.length := by rw [gapsG_length, hnl]
        have hlt1 := (own_cap ho1).2
        have HP : Hid (Calls Try.prog 41 #[.slice (some ⟨w.heap.size, 0, none⟩) zs.length zs.length] w1 fun e w' => ∃ v', e = .returned v' ∧ w'.ownsRow w1.heap.size 5 1 v' (packL (gapsG 0 (numsOf zs))).length (Lib.byteCells (packL (gapsG 0 (numsOf zs)))) ∧ Below w1.heap.size w1 w') := by
          have := packed_uint64 w.heap.size 0 zs.length (gapsG 0 (numsOf zs)) w1 (by omega) (by omega) (gapsG_62 _ 0 Hn62.out) hlt1 (own_numsU ho1 hgl)
          rw [hgl] at this
          exact this
        clear hr ho1
        go_wp2_with fail
        refine HP.out.mono ?_
        rintro e w2 ⟨v2, rfl, ho2, hb2⟩
        have R := hidd (And.intro (own_mono ho2 HB1.out.size) (HB1.out.trans (hb2.mono HB1.out.size)))
        clear ho2 hb2
        go_wp2
        go_ret2
        rw [HE.out]
        exact ⟨_, rfl, R.out.1, R.out.2⟩
end Go.Proofs.Ytibomnmgiimejad
