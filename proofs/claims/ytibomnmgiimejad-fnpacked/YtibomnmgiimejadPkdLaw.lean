import Derived.Test.YtibomnmgiimejadSrcR
import Derived.Test.YtibomnmgiimejadSameI
import Derived.Test.YtibomnmgiimejadPkY
import Derived.Test.YtibomnmgiimejadPkYr
import Derived.Test.YtibomnmgiimejadPkUg
import Derived.Test.YtibomnmgiimejadPkB
import Derived.Test.YtibomnmgiimejadPkD
import Derived.Laws.BytesArg
namespace Go.Proofs.Ytibomnmgiimejad
open Go Go.RowKit
set_option linter.unusedVariables false

theorem ints_own {w : World} {base e g n cap : Nat} {zs : List Int} (h : w.ownsRow base e 1 (.slice (some ⟨g, 0, none⟩) n cap) n (zs.map (Value.int .i64))) (hl : zs.length = n) : IntsAt w g 0 zs := by
  intro t ht
  rw [Nat.zero_add, h.cellAt t (by omega)]
  simp [ht]
theorem conv_own {w : World} {base n : Nat} {v : Value} {bs : List UInt8} (h : w.ownsRow base 5 1 v n (Lib.byteCells bs)) (hl : bs.length = n) :
    (convert 22 9 v).run Try.prog w = .ok (.string ⟨bs.toArray⟩) w := by
  rcases own_cases h with ⟨rfl, rfl⟩ | ⟨g, cp, rfl, _, _⟩
  · have : bs = [] := List.length_eq_zero_iff.1 hl
    subst this
    exact run_convert_bytes_nil w 22 5 Try.underlying22 Try.underlying5 0 0 9 Try.underlying9
  · subst hl
    refine run_convert_bytes_back w 22 9 5 ⟨g, 0, none⟩ cp bs Try.underlying22 Try.underlying5 Try.underlying9 fun j hj => ?_
    have := own_bytes h rfl j hj
    rw [show (⟨g, 0, none⟩ : Addr).add j = ⟨g, 0 + j, none⟩ from by simp only [Addr.add]; split <;> simp_all]
    simpa [hj] using this

theorem own_bytes_news {w : World} {base g n cp : Nat} {bs : List UInt8} (h : w.ownsRow base 5 1 (.slice (some ⟨g, 0, none⟩) n cp) n (Lib.byteCells bs)) : ∀ j u, (Lib.byteCells bs)[j]? = some u → w.cell? ((⟨g, 0, none⟩ : Addr).add j) = some u := by
  intro j u hj
  have hjl : j < (Lib.byteCells bs).length := (List.getElem?_eq_some_iff.1 hj).1
  have hl : (Lib.byteCells bs).length = n := by have := h.1; omega
  rw [show (⟨g, 0, none⟩ : Addr).add j = ⟨g, j, none⟩ from by simp only [Addr.add]; split <;> simp_all, h.cellAt j (by omega)]
  exact hj
theorem bytes_one (bs : List UInt8) : ∀ u ∈ Lib.byteCells bs, u.oneCell' = true := by
  intro u hu
  simp only [Lib.byteCells, List.mem_map] at hu
  obtain ⟨b, _, rfl⟩ := hu
  rfl
theorem any_own {w : World} {base n : Nat} {v : Value} {bs : List UInt8} (h : w.ownsRow base 5 1 v n (Lib.byteCells bs)) (hl : bs.length = n) : AnyStretch w v bs := by
  subst hl
  rcases own_cases h with ⟨rfl, h0⟩ | ⟨g, cp, rfl, _, _⟩
  · exact Or.inl ⟨none, 0, rfl, List.length_eq_zero_iff.1 h0⟩
  · by_cases h0 : bs.length = 0
    · exact Or.inl ⟨_, _, by rw [h0], List.length_eq_zero_iff.1 h0⟩
    · exact Or.inr ⟨g, 0, cp, rfl, by omega, (own_cap h).1, own_bytes h rfl⟩
theorem packL_pos (vs : List Nat) : 1 ≤ (packL vs).length := by
  have h := putL_pos vs.length
  rw [packL, List.length_append]
  omega
theorem numsOf_cells {zs : List Int} (h : zs.all putOK = true) : nCells (numsOf zs) = zs.map (Value.int .i64) := by
  simp only [nCells, numsOf, List.map_map]
  refine List.map_congr_left fun z hz => ?_
  have := List.all_eq_true.1 h z hz
  have h' : 0 ≤ z ∧ z ≤ 4611686018427387903 := by simpa [putOK] using this
  simp only [Function.comp]
  rw [Int.toNat_of_nonneg h'.1]
theorem pack_facts {zs : List Int} (h : (packOut zs).2 = 0) : zs.length ≤ 4096 ∧ zs.all putOK = true ∧ (packOut zs).1 = packL (numsOf zs) := by
  by_cases h1 : 4096 < zs.length
  · rw [(packOut_long h1).1] at h; cases h
  · cases ha : zs.all putOK with
    | false => rw [(packOut_bad h1 ha).1] at h; cases h
    | true => exact ⟨by omega, rfl, by rw [(packOut_good h1 ha).1]⟩
theorem rise_facts {zs : List Int} (h : (riseOut zs).2 = 0) : zs.length ≤ 4096 ∧ zs.all putOK = true ∧ riseG 0 (numsOf zs) = true ∧ (riseOut zs).1 = packL (gapsG 0 (numsOf zs)) := by
  by_cases h1 : 4096 < zs.length
  · rw [(riseOut_long h1).1] at h; cases h
  · cases ha : zs.all putOK with
    | false => rw [(riseOut_bad h1 ha).1] at h; cases h
    | true =>
      cases hr : riseG 0 (numsOf zs) with
      | false => rw [(riseOut_fall h1 ha hr).1] at h; cases h
      | true => exact ⟨by omega, rfl, rfl, by rw [(riseOut_good h1 ha hr).1]⟩
theorem unOut_pack (vs : List Nat) (hl : vs.length ≤ 4096) (h : nums62 vs) : unOut (packL vs) = (vs, 0) := by
  have := packL_len vs hl h
  rw [unOut, if_neg (by omega), unAll_pack vs hl h]
theorem unOut_less (vs : List Nat) (hl : vs.length ≤ 4096) (h : nums62 vs) : unOut ((packL vs).take ((packL vs).length - 1)) = ([], 3) := by
  have := packL_len vs hl h
  rw [unOut, if_neg (by rw [List.length_take]; omega), unAll_less vs hl h]
theorem unOut_much (vs : List Nat) (b : UInt8) (hl : vs.length ≤ 4096) (h : nums62 vs) : unOut (packL vs ++ [b]) = ([], 3) := by
  have := packL_len vs hl h
  rw [unOut, if_neg (by rw [List.length_append]; simp; omega), unAll_much vs b hl h]
theorem unriseOut_pack (zs : List Int) (h : (riseOut zs).2 = 0) : unriseOut (riseOut zs).1 = (numsOf zs, 0) := by
  obtain ⟨h1, h2, h3, h4⟩ := rise_facts h
  rw [h4, unriseOut, unOut_pack _ (by rw [gapsG_length, numsOf_length]; omega) (gapsG_62 _ 0 (numsOf_62 h2))]
  simp only [if_true]
  rw [unrise_gaps _ 0 (numsOf_62 h2) h3]
theorem get_put (z : Int) (h : putOK z = true) (x : UInt8) : getOut (x :: putB z) 1 = (z, 1 + ((putB z).length : Int), 0) ∧ putC z = 0 := by
  have h' : 0 ≤ z ∧ z ≤ 4611686018427387903 := by simpa [putOK] using h
  have hb : putB z = putL z.toNat := by simp [putB, h]
  have hl : (putL z.toNat).length ≤ 9 := putL_length9 _ (by omega)
  refine ⟨?_, by simp [putC, h]⟩
  rw [hb, getOut, if_neg (by simp; omega), if_neg (by simp; omega)]
  have e : (x :: putL z.toNat).drop (1 : Int).toNat = putL z.toNat ++ [] := by simp
  rw [e, getL_put z.toNat [] (by omega)]
  simp only [Int.toNat_of_nonneg h'.1]

theorem own_one (w : World) (e : TypeId) (x : Value) : (w.alloc (.cells #[x] e)).ownsRow w.heap.size e 1 (.slice (some ⟨w.heap.size, 0, none⟩) 1 1) 1 [x] := by
  have := World.ownsRow_lit (base := w.heap.size) (e := e) (size := 1) w #[x] 1 (Nat.le_refl _) (by unfold maxLen; omega) (by simp)
  simpa using this
theorem any_take {w : World} {base g cp : Nat} {bs : List UInt8} (h : w.ownsRow base 5 1 (.slice (some ⟨g, 0, none⟩) bs.length cp) bs.length (Lib.byteCells bs)) (L : Nat) (hL : L ≤ bs.length) : AnyStretch w (.slice (some ⟨g, 0, none⟩) L cp) (bs.take L) := by
  have hl : (bs.take L).length = L := by rw [List.length_take]; omega
  by_cases h0 : L = 0
  · subst h0
    exact Or.inl ⟨_, _, rfl, rfl⟩
  · refine Or.inr ⟨g, 0, cp, by rw [hl], by omega, by rw [hl]; exact Nat.le_trans hL (own_cap h).1, fun t ht => ?_⟩
    have := own_bytes h rfl t (by omega)
    rw [this]
    simp [List.getD_eq_getElem?_getD, show t < L from by omega]
set_option maxHeartbeats 4000000 in
set_option maxRecDepth 100000 in
theorem packedLaw_any (ao : Option Addr) (n cap : Nat) (w : World) (hc : CodeIn w ao n) :
    Calls Try.prog 3 #[.slice ao n cap] w fun e w' => e = .returned (.bool true) ∧ Below w.heap.size w w' := by
  obtain ⟨i0, hi, hz0, hz1, hz2⟩ := info_parts Try.infoByte
  have HC := hidd hc
  clear hc
  by_cases hlong : 1048576 < n
  · have hlz : (1048576 : Int) < (n : Int) := by omega
    go_enter Try.func3, Try.ntmps3
    go_wp2
    go_ret
    exact ⟨rfl, Below.refl _ _⟩
  · have hlz : ¬ (1048576 : Int) < (n : Int) := by omega
    go_enter Try.func3, Try.ntmps3
    go_wp2_with fail
    refine (drawPack_any ao n cap _ (by omega) HC.out).mono ?_
    rintro e w1 ⟨zs, g, cp, rfl, hzl, hown1, hb1⟩
    have HO1 := hidd hown1
    have HB1 := hidd hb1
    have hcp := own_cap hown1
    clear hown1 hb1
    go_wp2_with fail
    refine (implPackInts_any g 0 cp zs _ hcp.1 hcp.2 (ints_own HO1.out rfl)).mono ?_
    rintro e w2 ⟨v2, rfl, hown2, hb2⟩
    have HO2 := hidd (own_below HO1.out hb2)
    have HP2 := hidd hown2
    have HB2 := hidd (HB1.out.trans (hb2.mono HB1.out.size))
    have HK2 := hidd (World.ownsRow.lt hown2)
    have hg2 : g < w2.heap.size := Nat.lt_of_lt_of_le hcp.2 hb2.size
    have hz12 := hb2.size
    clear hown2 hb2 HO1 HB1
    go_wp2_with fail
    refine (specPackInts_any g 0 cp zs _ (by omega) hcp.1 (ints_own HO2.out rfl)).mono ?_
    rintro e w3 ⟨v3, rfl, hown3, hb3⟩
    have HO3 := hidd (own_below HO2.out hb3)
    have HP3 := hidd (own_below HP2.out hb3)
    have HB3 := hidd (HB2.out.trans (hb3.mono HB2.out.size))
    have k1 := conv_own HP3.out rfl
    have k2 := conv_own hown3 rfl
    clear hown3 hb3 HO2 HP2 HB2
    have hcn : ((packOut zs).2 != (packOut zs).2) = false := by simp
    generalize hps : (packOut zs).1 = ps at *
    generalize hcs : (packOut zs).2 = cc at *
    have Hf : Hid (cc = 0 → zs.length ≤ 4096 ∧ zs.all putOK = true ∧ ps = packL (numsOf zs)) := fun h => by rw [← hps]; exact pack_facts (hcs.trans h)
    clear hps hcs
    by_cases hc0 : cc = 0
    · subst hc0
      obtain ⟨hz4, hza, hpe⟩ := Hf.out rfl
      have hps1 := packL_pos (numsOf zs)
      have hps2 := packL_len (numsOf zs) (by rw [numsOf_length]; omega) (numsOf_62 hza)
      have HA := hidd hza
      have HU1 := hidd (unOut_pack (numsOf zs) (by rw [numsOf_length]; omega) (numsOf_62 hza))
      have HU2 := hidd (unOut_less (numsOf zs) (by rw [numsOf_length]; omega) (numsOf_62 hza))
      have HU3 := hidd (unOut_much (numsOf zs) 0 (by rw [numsOf_length]; omega) (numsOf_62 hza))
      rw [← hpe] at HU1 HU2 HU3 hps1 hps2
      clear hza hpe Hf
      rcases own_cases HP3.out with ⟨hx, hy⟩ | ⟨gp, cpp, rfl, _, _⟩
      · exfalso; omega
      obtain ⟨L, hL⟩ : ∃ L, ps.length = L + 1 := ⟨ps.length - 1, by omega⟩
      have hLz : (ps.length : Int) - 1 = (L : Int) := by omega
      have hcpp := own_cap HP3.out
      rw [show ps.length - 1 = L from by omega] at HU2
      have HLe := hidd hL
      clear hL
      go_wp2_with (at_builtin; refine wpList_append_own_at _ rfl _ _ 22 rfl w3.heap.size 5 i0 (.int .u8 0) 1 1 Try.underlying22 hi hz0 hz1 hz2 rfl (by decide) _ _ _ rfl (own_empty w3 5) ⟨gp, 0, none⟩ ps.length cpp (Lib.byteCells ps) rfl (by rw [Lib.byteCells_length]; omega) (own_bytes_news (HP3.out.alloc _)) (bytes_one ps) ?c3 ?c4 ?c5 ?_)
      case c3 => unfold maxLen; omega
      case c4 => omega
      case c5 => simp
      intro v4 w4 hown4 hgrow4 hne4 hat4
      have HO4 : Hid (w4.ownsRow w3.heap.size 5 1 v4 ps.length (Lib.byteCells ps)) := by
        first | exact hown4 | (have := hown4; rw [Nat.zero_add, List.nil_append] at this; exact this)
      have hb4 : Below w3.heap.size w3 w4 := ((Below.refl _ w3).alloc (Nat.le_refl _) _).grown hgrow4 (by simp) (own_block (own_empty w3 5))
      have HP4 := hidd (own_below HP3.out hb4)
      have HL4 := hidd (own_below HO3.out hb4)
      have HB4 := hidd (HB3.out.trans (hb4.mono HB3.out.size))
      clear hown4 hgrow4 hne4 hat4 hb4 HP3 HO3 HB3 k1 k2
      go_wp2_with fail
      refine (implUnpackInts_any v4 ps _ (any_own HO4.out rfl)).mono ?_
      rintro e w5 ⟨v5, rfl, hown5, hb5⟩
      rw [HU1.out] at hown5 ⊢
      have HV5 := hidd hown5
      have HP5 := hidd (own_below HP4.out hb5)
      have HL5 := hidd (own_below HL4.out hb5)
      have HB5 := hidd (HB4.out.trans (hb5.mono HB4.out.size))
      clear hown5 hb5 HP4 HL4 HB4 HO4 HU1
      go_wp2_with fail
      refine (implUnpackInts_any _ (ps.take L) _ (any_take HP5.out L (by omega))).mono ?_
      rintro e w6 ⟨v6, rfl, hown6, hb6⟩
      rw [HU2.out]
      have HV6 := hidd (own_below HV5.out hb6)
      have HP6 := hidd (own_below HP5.out hb6)
      have HL6 := hidd (own_below HL5.out hb6)
      have HB6 := hidd (HB5.out.trans (hb6.mono HB5.out.size))
      have hcpp6 := own_cap HP6.out
      clear hown6 hb6 HP5 HL5 HB5 HV5 HU2
      go_wp2_with (at_builtin; refine wpList_append_own_at _ rfl _ _ 22 rfl w6.heap.size 5 i0 (.int .u8 0) 1 1 Try.underlying22 hi hz0 hz1 hz2 rfl (by decide) _ _ _ rfl (own_empty w6 5) ⟨gp, 0, none⟩ ps.length cpp (Lib.byteCells ps) rfl (by rw [Lib.byteCells_length]; omega) (own_bytes_news (HP6.out.alloc _)) (bytes_one ps) ?c3 ?c4 ?c5 ?_)
      case c3 => unfold maxLen; omega
      case c4 => omega
      case c5 => simp
      intro v7 w7 hown7 hgrow7 hne7 hat7
      have HO7 : Hid (w7.ownsRow w6.heap.size 5 1 v7 ps.length (Lib.byteCells ps)) := by
        first | exact hown7 | (have := hown7; rw [Nat.zero_add, List.nil_append] at this; exact this)
      have hb7 : Below w6.heap.size w6 w7 := ((Below.refl _ w6).alloc (Nat.le_refl _) _).grown hgrow7 (by simp) (own_block (own_empty w6 5))
      have HB67 := hidd hb7
      have hz67 := hb7.size
      clear hown7 hgrow7 hne7 hat7 hb7 HP6
      go_wp2_with (at_builtin; refine wpList_append_own_at _ rfl _ _ 22 rfl w6.heap.size 5 i0 (.int .u8 0) 1 1 Try.underlying22 hi hz0 hz1 hz2 rfl (by decide) _ _ _ rfl (HO7.out.alloc _) ⟨w7.heap.size, 0, none⟩ 1 1 [.int .u8 0] rfl rfl ?c1 ?c2 ?c3 ?c4 ?c5 ?_)
      try case c1 =>
        intro j u hj
        match j, hj with
        | 0, hj => simp at hj; subst hj; simp [Addr.add]
      case c2 => first | rfl | (intro u hu; simp at hu; subst hu; rfl)
      case c3 => unfold maxLen; omega
      case c4 => omega
      case c5 => simp; omega
      intro v8 w8 hown8 hgrow8 hne8 hat8
      have HO8 : Hid (w8.ownsRow w6.heap.size 5 1 v8 (ps ++ [0]).length (Lib.byteCells (ps ++ [0]))) := by
        rw [List.length_append, Lib.byteCells_append]
        exact hown8
      have hb8 : Below w6.heap.size w6 w8 := (HB67.out.alloc HB67.out.size _).grown hgrow8 (by simp; omega) (own_block HO7.out)
      have HV8 := hidd (own_below HV6.out hb8)
      have HL8 := hidd (own_below HL6.out hb8)
      have HB8 := hidd (HB6.out.trans (hb8.mono HB6.out.size))
      clear hown8 hgrow8 hne8 hat8 hb8 HB67 HO7 HV6 HL6 HB6
      go_wp2_with fail
      refine (implUnpackInts_any v8 (ps ++ [0]) _ (any_own HO8.out rfl)).mono ?_
      rintro e w9 ⟨v9, rfl, hown9, hb9⟩
      rw [HU3.out]
      have HV9 : Hid (w9.ownsRow w4.heap.size 3 1 v5 zs.length (zs.map (Value.int .i64))) := by
        have := own_below HV8.out hb9
        rw [numsOf_cells HA.out, numsOf_length] at this
        exact this
      have HL9 := hidd (own_below HL8.out hb9)
      have HB9 := hidd (HB8.out.trans (hb9.mono HB8.out.size))
      clear hown9 hb9 HV8 HL8 HB8 HO8 HU3
      go_wp2_with fail
      refine (sameInts_own _ _ zs.length v5 _ zs _ (by omega) rfl HV9.out HL9.out).mono ?_
      rintro e w10 ⟨rfl, m10, rfl⟩
      have HLa := hidd (own_drewN HL9.out m10)
      have HBa := hidd (below_drewN HB9.out m10)
      generalize w9.drewN m10 = wa at *
      clear HV9 HL9 HB9
      go_wp2_with fail
      clear HK2 hcpp6 hLz HLe
      go_loopw [14] (fun iv wr => ∃ k : Nat, k ≤ zs.length ∧ iv = .int .i64 (k : Int) ∧ wr.ownsRow w.heap.size 3 1 (.slice (some ⟨g, 0, none⟩) zs.length cp) zs.length (zs.map (Value.int .i64)) ∧ Below w.heap.size w wr) (fun iv _ => zs.length - (intOf iv).toNat)
      case atStart => exact ⟨0, Nat.zero_le _, rfl, HLa.out, HBa.out⟩
      case round =>
        obtain ⟨k, hk, rfl, hown, hbel⟩ := hrel
        have HL := hidd hown
        have HBt := hidd hbel
        clear hown hbel HLa HBa
        by_cases hlt : k < zs.length ∧ k < 40
        · obtain ⟨hk1, hk2⟩ := hlt
          have hk1z : (k : Int) < (zs.length : Int) := by omega
          have hk2z : (k : Int) < 40 := by omega
          have g1 : wr.cell? ⟨g, k, none⟩ = some (.int .i64 (zs.getD k 0)) := by rw [HL.out.cellAt k (by omega)]; exact ints_at' zs k (by omega)
          have HPz := hidd (List.all_eq_true.1 HA.out (zs.getD k 0) (by rw [List.getD_eq_getElem?_getD, List.getElem?_eq_getElem hk1]; exact List.getElem_mem _))
          have hpl1 : 1 ≤ (putB (zs.getD k 0)).length ∧ (putB (zs.getD k 0)).length ≤ 9 := by
            have h' : 0 ≤ zs.getD k 0 ∧ zs.getD k 0 ≤ 4611686018427387903 := by simpa [putOK] using HPz.out
            have hb : putB (zs.getD k 0) = putL (zs.getD k 0).toNat := by rw [putB, if_pos HPz.out]
            rw [hb]
            exact ⟨putL_pos _, putL_length9 _ (by omega)⟩
          have HGP := hidd (get_put _ HPz.out 5)
          have Hzk := hidd (ints_at' zs k hk1)
          generalize zs.getD k 0 = z at *
          have HPI := hidd (implPutInt_any z)
          rw [HGP.out.2] at HPI
          generalize putB z = xs at *
          go_wp2_with fail
          refine (HPI.out _).mono ?_
          rintro e wx ⟨vx, rfl, hownx, hbx⟩
          have HXx := hidd hownx
          have HLx := hidd (own_below HL.out hbx)
          have HBx := hidd (HBt.out.trans (hbx.mono HBt.out.size))
          clear hownx hbx HL HBt g1 HPI
          rcases own_cases HXx.out with ⟨hx, hy⟩ | ⟨gx, cx, rfl, _, _⟩
          · exfalso; omega
          go_wp2_with (at_builtin; refine wpList_append_own_at _ rfl _ _ 22 rfl wx.heap.size 5 i0 (.int .u8 0) 1 1 Try.underlying22 hi hz0 hz1 hz2 rfl (by decide) _ _ _ rfl (own_one wx 5 (.int .u8 5)) ⟨gx, 0, none⟩ xs.length cx (Lib.byteCells xs) rfl (by rw [Lib.byteCells_length]; omega) (own_bytes_news (HXx.out.alloc _)) (bytes_one xs) ?c3 ?c4 ?c5 ?_)
          case c3 => unfold maxLen; omega
          case c4 => omega
          case c5 => simp
          intro vy wy howny hgrowy hney haty
          have HOy : Hid (wy.ownsRow wx.heap.size 5 1 vy ((5 : UInt8) :: xs).length (Lib.byteCells ((5 : UInt8) :: xs))) := by
            show World.ownsRow _ _ _ _ _ _ _
            rw [List.length_cons, Nat.add_comm xs.length 1]
            exact howny
          have hby : Below wx.heap.size wx wy := ((Below.refl _ wx).alloc (Nat.le_refl _) _).grown hgrowy (by simp) (own_block (own_one wx 5 (.int .u8 5)))
          have HLy := hidd (own_below HLx.out hby)
          have HBy := hidd (HBx.out.trans (hby.mono HBx.out.size))
          clear howny hgrowy hney haty hby HLx HBx HXx
          rcases own_cases HOy.out with ⟨hx, hy⟩ | ⟨gy, cy, rfl, _, _⟩
          · exfalso; simp at hy
          have hcy := own_cap HOy.out
          go_wp2_with fail
          refine (implGetInt_any gy 0 cy ((5 : UInt8) :: xs) 1 _ hcy.1 (own_bytes HOy.out rfl)).mono ?_
          rintro e w' ⟨rfl, hw'⟩
          obtain rfl := hw'.symm
          clear hw'
          rw [HGP.out.1]
          have g2 : wy.cell? ⟨g, k, none⟩ = some (.int .i64 z) := by rw [HLy.out.cellAt k (by omega)]; exact Hzk.out
          go_wp2_with fail
          go_roundw
          case rel => exact ⟨k + 1, by omega, by go_num, HLy.out, HBy.out⟩
          case measure => simp [intOf]; omega
        · have hlz2 : ¬ ((k : Int) < (zs.length : Int) ∧ (k : Int) < 40) := by omega
          by_cases hk1 : k < zs.length
          · have hk1z : (k : Int) < (zs.length : Int) := by omega
            have hk2z : ¬ (k : Int) < 40 := by omega
            clear HL
            go_wp2_with fail
            refine (drawPackR_any ao n cap _ (by omega) (HC.out.below HBt.out)).mono ?_
            rintro e wb ⟨ys, g2, cp2, rfl, hyl, hownb, hbb⟩
            have HOb := hidd hownb
            have HBb := hidd (HBt.out.trans (hbb.mono HBt.out.size))
            have hcpb := own_cap hownb
            clear hownb hbb HBt
            go_wp2_with fail
            refine (implPackRising_any g2 0 cp2 ys _ hcpb.1 hcpb.2 (ints_own HOb.out rfl)).mono ?_
            rintro e wc ⟨vc, rfl, hownc, hbc⟩
            have HPc := hidd hownc
            have HOc := hidd (own_below HOb.out hbc)
            have HBc := hidd (HBb.out.trans (hbc.mono HBb.out.size))
            have hgc : g2 < wc.heap.size := Nat.lt_of_lt_of_le hcpb.2 hbc.size
            clear hownc hbc HOb HBb
            go_wp2_with fail
            refine (specPackRising_any g2 0 cp2 ys _ (by omega) hcpb.1 hgc (ints_own HOc.out rfl)).mono ?_
            rintro e wd ⟨vd, rfl, hownd, hbd⟩
            have HPd := hidd (own_below HPc.out hbd)
            have HOd := hidd (own_below HOc.out hbd)
            have HBd := hidd (HBc.out.trans (hbd.mono HBc.out.size))
            clear hownd hbd HPc HOc HBc
            have hcn2 : ((riseOut ys).2 != (riseOut ys).2) = false := by simp
            have Hfy : Hid ((riseOut ys).2 = 0 → unriseOut (riseOut ys).1 = (numsOf ys, 0) ∧ ys.all putOK = true) := fun h => ⟨unriseOut_pack ys h, (rise_facts h).2.1⟩
            generalize (riseOut ys).1 = qs at *
            generalize (riseOut ys).2 = dd at *
            by_cases hd0 : dd = 0
            · subst hd0
              obtain ⟨hun, hya⟩ := Hfy.out rfl
              have HUn := hidd hun
              have HYa := hidd hya
              clear hun hya Hfy
              go_wp2_with fail
              refine (implUnpackRising_any vc qs _ (any_own HPd.out rfl)).mono ?_
              rintro e we ⟨ve, rfl, howne, hbe⟩
              rw [HUn.out] at howne ⊢
              have HVe : Hid (we.ownsRow wd.heap.size 3 1 ve ys.length (ys.map (Value.int .i64))) := by
                have := howne
                rw [numsOf_cells HYa.out, numsOf_length] at this
                exact this
              have HOe := hidd (own_below HOd.out hbe)
              have HBe := hidd (HBd.out.trans (hbe.mono HBd.out.size))
              clear howne hbe HOd HBd HPd
              go_wp2_with fail
              refine (sameInts_own _ _ ys.length ve _ ys _ (by omega) rfl HVe.out HOe.out).mono ?_
              rintro e wf ⟨rfl, mf, rfl⟩
              go_wp2
              go_ret
              exact ⟨rfl, below_drewN HBe.out mf⟩
            · have hd0z : (dd == 0) = false := beq_eq_false_iff_ne.2 hd0
              have hd0n : (dd != 0) = true := by simp [hd0]
              go_wp2
              go_ret
              exact ⟨rfl, HBd.out⟩
          · have hk1z : ¬ (k : Int) < (zs.length : Int) := by omega
            clear HL
            go_wp2_with fail
            refine (drawPackR_any ao n cap _ (by omega) (HC.out.below HBt.out)).mono ?_
            rintro e wb ⟨ys, g2, cp2, rfl, hyl, hownb, hbb⟩
            have HOb := hidd hownb
            have HBb := hidd (HBt.out.trans (hbb.mono HBt.out.size))
            have hcpb := own_cap hownb
            clear hownb hbb HBt
            go_wp2_with fail
            refine (implPackRising_any g2 0 cp2 ys _ hcpb.1 hcpb.2 (ints_own HOb.out rfl)).mono ?_
            rintro e wc ⟨vc, rfl, hownc, hbc⟩
            have HPc := hidd hownc
            have HOc := hidd (own_below HOb.out hbc)
            have HBc := hidd (HBb.out.trans (hbc.mono HBb.out.size))
            have hgc : g2 < wc.heap.size := Nat.lt_of_lt_of_le hcpb.2 hbc.size
            clear hownc hbc HOb HBb
            go_wp2_with fail
            refine (specPackRising_any g2 0 cp2 ys _ (by omega) hcpb.1 hgc (ints_own HOc.out rfl)).mono ?_
            rintro e wd ⟨vd, rfl, hownd, hbd⟩
            have HPd := hidd (own_below HPc.out hbd)
            have HOd := hidd (own_below HOc.out hbd)
            have HBd := hidd (HBc.out.trans (hbd.mono HBc.out.size))
            clear hownd hbd HPc HOc HBc
            have hcn2 : ((riseOut ys).2 != (riseOut ys).2) = false := by simp
            have Hfy : Hid ((riseOut ys).2 = 0 → unriseOut (riseOut ys).1 = (numsOf ys, 0) ∧ ys.all putOK = true) := fun h => ⟨unriseOut_pack ys h, (rise_facts h).2.1⟩
            generalize (riseOut ys).1 = qs at *
            generalize (riseOut ys).2 = dd at *
            by_cases hd0 : dd = 0
            · subst hd0
              obtain ⟨hun, hya⟩ := Hfy.out rfl
              have HUn := hidd hun
              have HYa := hidd hya
              clear hun hya Hfy
              go_wp2_with fail
              refine (implUnpackRising_any vc qs _ (any_own HPd.out rfl)).mono ?_
              rintro e we ⟨ve, rfl, howne, hbe⟩
              rw [HUn.out] at howne ⊢
              have HVe : Hid (we.ownsRow wd.heap.size 3 1 ve ys.length (ys.map (Value.int .i64))) := by
                have := howne
                rw [numsOf_cells HYa.out, numsOf_length] at this
                exact this
              have HOe := hidd (own_below HOd.out hbe)
              have HBe := hidd (HBd.out.trans (hbe.mono HBd.out.size))
              clear howne hbe HOd HBd HPd
              go_wp2_with fail
              refine (sameInts_own _ _ ys.length ve _ ys _ (by omega) rfl HVe.out HOe.out).mono ?_
              rintro e wf ⟨rfl, mf, rfl⟩
              go_wp2
              go_ret
              exact ⟨rfl, below_drewN HBe.out mf⟩
            · have hd0z : (dd == 0) = false := beq_eq_false_iff_ne.2 hd0
              have hd0n : (dd != 0) = true := by simp [hd0]
              go_wp2
              go_ret
              exact ⟨rfl, HBd.out⟩
    · have hc0z : (cc == 0) = false := beq_eq_false_iff_ne.2 hc0
      have HBt := hidd HB3.out
      clear HO3 HP3 Hf HK2
      go_wp2_with fail
      refine (drawPackR_any ao n cap _ (by omega) (HC.out.below HBt.out)).mono ?_
      rintro e wb ⟨ys, g2, cp2, rfl, hyl, hownb, hbb⟩
      have HOb := hidd hownb
      have HBb := hidd (HBt.out.trans (hbb.mono HBt.out.size))
      have hcpb := own_cap hownb
      clear hownb hbb HBt
      go_wp2_with fail
      refine (implPackRising_any g2 0 cp2 ys _ hcpb.1 hcpb.2 (ints_own HOb.out rfl)).mono ?_
      rintro e wc ⟨vc, rfl, hownc, hbc⟩
      have HPc := hidd hownc
      have HOc := hidd (own_below HOb.out hbc)
      have HBc := hidd (HBb.out.trans (hbc.mono HBb.out.size))
      have hgc : g2 < wc.heap.size := Nat.lt_of_lt_of_le hcpb.2 hbc.size
      clear hownc hbc HOb HBb
      go_wp2_with fail
      refine (specPackRising_any g2 0 cp2 ys _ (by omega) hcpb.1 hgc (ints_own HOc.out rfl)).mono ?_
      rintro e wd ⟨vd, rfl, hownd, hbd⟩
      have HPd := hidd (own_below HPc.out hbd)
      have HOd := hidd (own_below HOc.out hbd)
      have HBd := hidd (HBc.out.trans (hbd.mono HBc.out.size))
      clear hownd hbd HPc HOc HBc
      have hcn2 : ((riseOut ys).2 != (riseOut ys).2) = false := by simp
      have Hfy : Hid ((riseOut ys).2 = 0 → unriseOut (riseOut ys).1 = (numsOf ys, 0) ∧ ys.all putOK = true) := fun h => ⟨unriseOut_pack ys h, (rise_facts h).2.1⟩
      generalize (riseOut ys).1 = qs at *
      generalize (riseOut ys).2 = dd at *
      by_cases hd0 : dd = 0
      · subst hd0
        obtain ⟨hun, hya⟩ := Hfy.out rfl
        have HUn := hidd hun
        have HYa := hidd hya
        clear hun hya Hfy
        go_wp2_with fail
        refine (implUnpackRising_any vc qs _ (any_own HPd.out rfl)).mono ?_
        rintro e we ⟨ve, rfl, howne, hbe⟩
        rw [HUn.out] at howne ⊢
        have HVe : Hid (we.ownsRow wd.heap.size 3 1 ve ys.length (ys.map (Value.int .i64))) := by
          have := howne
          rw [numsOf_cells HYa.out, numsOf_length] at this
          exact this
        have HOe := hidd (own_below HOd.out hbe)
        have HBe := hidd (HBd.out.trans (hbe.mono HBd.out.size))
        clear howne hbe HOd HBd HPd
        go_wp2_with fail
        refine (sameInts_own _ _ ys.length ve _ ys _ (by omega) rfl HVe.out HOe.out).mono ?_
        rintro e wf ⟨rfl, mf, rfl⟩
        go_wp2
        go_ret
        exact ⟨rfl, below_drewN HBe.out mf⟩
      · have hd0z : (dd == 0) = false := beq_eq_false_iff_ne.2 hd0
        have hd0n : (dd != 0) = true := by simp [hd0]
        go_wp2
        go_ret
        exact ⟨rfl, HBd.out⟩
end Go.Proofs.Ytibomnmgiimejad
