import Derived.Test.YtboocdiilbcdcaaDoorSoG
import Derived.Deep.CutBlock
namespace Go.Proofs.YtboocdiilbcdcaaDoor
open Go Go.RowKit
set_option linter.unusedVariables false
set_option linter.unusedSimpArgs false
set_option maxRecDepth 100000

/-! laws.FnSketch. -/
theorem own_oneS (w : World) (t : ByteArray) : (w.alloc (.cells #[.string t] 9)).ownsRow w.heap.size 9 1 (.slice (some ⟨w.heap.size, 0, none⟩) 1 1) 1 [.string t] := by
  have := World.ownsRow_lit (base := w.heap.size) (e := 9) (size := 1) w #[.string t] 1 (Nat.le_refl _) (by unfold maxLen; omega) (by simp)
  simpa using this
set_option maxHeartbeats 32000000 in
theorem skFn_any (ao : Option Addr) (n cap : Nat) (w : World) (hn : n ≤ 9223372036854775807) (hc : CodeIn w ao n) (hT : TabAt (Tryd.laysTz_ren.g 0) Lib.deBruijn32tab w) :
    Calls Tryd.prog 3 #[.slice ao n cap] w fun e w' => e = .returned (.bool true) ∧ Below w.heap.size w w' := by
  obtain ⟨i0, hi, hz0, hz1, hz2⟩ := info_parts Tryd.infoStrD
  by_cases hlong : (1048576 : Int) < (n : Int)
  · go_enter Tryd.func3, Tryd.ntmps3
    go_wp2_with fail
    go_ret
    exact ⟨rfl, Below.refl _ _⟩
  have HC := hidd hc
  have HT := hidd hT
  clear hc hT
  go_enter Tryd.func3, Tryd.ntmps3
  go_wp2_with fail
  refine (drawSketch_any ao n cap _ (by omega) HC.out).mono ?_
  rintro e w1 ⟨ts, g, cp, rfl, htl, hts, ho1, hb1⟩
  have HB1 := hidd hb1
  have HTs := hidd hts
  have HM1 := hidd (tmAt_own ho1)
  have HCp : Hid (ts.length ≤ cp) := by
    rcases ho1.2 with ⟨h', _⟩ | ⟨g', c', cur, h1, h2, h3, h4, _⟩
    · cases h'
    · simp only [Value.slice.injEq, Option.some.injEq, Addr.mk.injEq, and_true, true_and] at h1
      obtain ⟨rfl, rfl⟩ := h1
      exact h4
  have HOK : Hid (txsOK ts = true) := txsOK_mem.2 HTs.out
  replace HT := hidd (tab_below HT.out hb1)
  clear ho1 hb1 HC hts
  have HSp : Hid (∀ V, Below w1.heap.size w1 V → Calls Tryd.prog 6 #[.slice (some ⟨g, 0, none⟩) ts.length cp] V (SkQ V (ofS ts).1 (ofS ts).2)) := fun V hV => (specOf_any _ cp ts V (by omega) (HM1.out.below hV)).mono fun e w' h => h.q
  have HIm : Hid (∀ V, Below w1.heap.size w1 V → Calls Tryd.prog 7 #[.slice (some ⟨g, 0, none⟩) ts.length cp] V (SkQ V (ofS ts).1 (ofS ts).2)) := fun V hV => (implOf_any _ cp ts V (by omega) (HM1.out.below hV) (tab_below HT.out hV)).mono fun e w' h => h.q
  have HLen : Hid ((ofS ts).1.length ≤ 1048576) := ofS_len ts
  have HJ : Hid ((ofS ts).2 = 0 ∧ (ofS ts).1 = skS ts ∨ (ofS ts).2 = 2 ∧ 4096 < ts.length) := by
    by_cases h : ts.length ≤ 4096
    · refine Or.inl ?_
      rw [ofS_ok h HOK.out]
      exact ⟨rfl, rfl⟩
    · refine Or.inr ?_
      unfold ofS
      rw [if_pos (by omega)]
      exact ⟨rfl, by omega⟩
  obtain ⟨P, hP⟩ : ∃ P, (ofS ts).1 = P := ⟨_, rfl⟩
  obtain ⟨code, hcd⟩ : ∃ c, (ofS ts).2 = c := ⟨_, rfl⟩
  rw [hP, hcd] at HSp HIm HJ
  rw [hP] at HLen
  clear hP hcd
  obtain ⟨N, hN⟩ : ∃ N, ts.length = N := ⟨_, rfl⟩
  rw [hN] at HSp HIm HJ HCp htl
  rw [hN]
  have HN := hidd hN
  clear hN
  have hcc : (code != code) = false := by simp
  go_wp2_with fail
  refine (HSp.out _ (Below.refl _ _)).mono ?_
  rintro e w2 ⟨ad2, n2, c2, rfl, hn2, hh2, hb2⟩
  have HB2 := hidd (HB1.out.trans (hb2.mono HB1.out.size))
  have HW2 := hidd hb2
  have HH2 := hidd hh2
  clear hh2 hb2 HSp
  go_upto_region 5 with fail
  have HBn : Hid (Below w2.heap.size w2 (w2.alloc (.cells #[.slice ad2 n2 c2] 27))) := (Below.refl _ _).alloc (Nat.le_refl _) _
  have HKn := hidd (heap_alloc_new w2 (.cells #[.slice ad2 n2 c2] 27))
  obtain ⟨w3, hwn⟩ : ∃ V, w2.alloc (.cells #[.slice ad2 n2 c2] 27) = V := ⟨_, rfl⟩
  rw [hwn] at HBn HKn
  try rw [hwn]
  clear hwn
  obtain ⟨bs, hbs⟩ : ∃ b, w2.heap.size = b := ⟨_, rfl⟩
  rw [hbs] at HKn
  try rw [hbs]
  have HS : Hid (SBx w3 bs ad2 n2 c2 P) := ⟨HKn.out, HH2.out.below HBn.out⟩
  have HB3 := hidd (HB2.out.trans (HBn.out.mono HB2.out.size))
  have HW3 := hidd (HW2.out.trans (HBn.out.mono HW2.out.size))
  clear HBn HKn HB2 HW2 HH2 hbs
  go_wp2_with fail
  refine (HIm.out _ HW3.out).mono ?_
  rintro e w4 ⟨ad4, n4, c4, rfl, hn4, hh4, hb4⟩
  have HB4 := hidd (HB3.out.trans (hb4.mono HB3.out.size))
  have HW4 := hidd (HW3.out.trans (hb4.mono HW3.out.size))
  have HH4 := hidd hh4
  replace HS := hidd (HS.out.below hb4)
  clear hh4 hb4 HB3 HW3 HIm
  obtain rfl : n4 = n2 := by rw [← hn4.out, hn2.out]
  go_upto_region 6 with fail
  have HBn : Hid (Below w4.heap.size w4 (w4.alloc (.cells #[.slice ad4 n4 c4] 27))) := (Below.refl _ _).alloc (Nat.le_refl _) _
  have HKn := hidd (heap_alloc_new w4 (.cells #[.slice ad4 n4 c4] 27))
  obtain ⟨w5, hwn⟩ : ∃ V, w4.alloc (.cells #[.slice ad4 n4 c4] 27) = V := ⟨_, rfl⟩
  rw [hwn] at HBn HKn
  try rw [hwn]
  clear hwn
  obtain ⟨bk, hbk⟩ : ∃ b, w4.heap.size = b := ⟨_, rfl⟩
  rw [hbk] at HKn
  try rw [hbk]
  have HK : Hid (SBx w5 bk ad4 n4 c4 P) := ⟨HKn.out, HH4.out.below HBn.out⟩
  have HB5 := hidd (HB4.out.trans (HBn.out.mono HB4.out.size))
  have HW5 := hidd (HW4.out.trans (HBn.out.mono HW4.out.size))
  replace HS := hidd (HS.out.below HBn.out)
  clear HBn HKn HB4 HW4 HH4 hbk
  have x0 : w5.cell? ⟨bs, 0, none⟩ = some (.slice ad2 n4 c2) := blkc HS.out.box 0
  have y0 : w5.cell? ⟨bk, 0, none⟩ = some (.slice ad4 n4 c4) := blkc HK.out.box 0
  have Hn4 : Hid (n4 ≤ 1048576) := by show n4 ≤ _; rw [← hn4.out]; exact HLen.out
  go_wp2_with fail
  refine (sameI_hold ad4 ad2 n4 c4 c2 P _ hn4.out Hn4.out HK.out.row HS.out.row).mono ?_
  rintro e w6 ⟨rfl, hb6⟩
  have HB6 := hidd (HB5.out.trans (hb6.mono HB5.out.size))
  have HW6 := hidd (HW5.out.trans (hb6.mono HW5.out.size))
  replace HK := hidd (HK.out.below hb6)
  clear hb6 x0 y0 HS HB5 HW5
  rcases HJ.out with ⟨rfl, hPe⟩ | ⟨rfl, hlo⟩
  · have HPe := hidd hPe
    clear hPe
    by_cases hN0 : N = 0
    · subst hN0
      go_wp2
      go_ret
      exact ⟨rfl, HB6.out⟩
    by_cases hNl : (N : Int) ≥ 4096
    · have hN0z : ((N : Int) == 0) = false := by simp; omega
      go_wp2
      go_ret
      exact ⟨rfl, HB6.out⟩
    · have hN0z : ((N : Int) == 0) = false := by simp; omega
      have HM6 := hidd (HM1.out.below HW6.out)
      obtain ⟨t0, ht0⟩ : ∃ t, ts.getD 0 [] = t := ⟨_, rfl⟩
      have HT0 := hidd ht0
      clear ht0
      have HCl : Hid (∀ V, Below w6.heap.size w6 V → ∀ K, K < N → V.cell? ⟨g, K, none⟩ = some (.string ⟨(ts.getD K []).toArray⟩)) := fun V hV K hK => by
        rcases (HM6.out.below hV) with h | ⟨g', off, h1, _, h2⟩
        · have := HN.out; rw [h] at this; simp at this; omega
        · simp only [Option.some.injEq, Addr.mk.injEq, and_true] at h1
          obtain ⟨rfl, rfl⟩ := h1
          have := h2 K (by rw [HN.out]; omega)
          rwa [Nat.zero_add] at this
      have h0 : w6.cell? ⟨g, 0, none⟩ = some (.string ⟨t0.toArray⟩) := by
        have := HCl.out _ (Below.refl _ _) 0 (by omega)
        rwa [HT0.out] at this
      have hNz : (0 : Int) < (N : Int) := by omega
      have HO0 := hidd (own_oneS w6 ⟨t0.toArray⟩)
      have HBn : Hid (Below w6.heap.size w6 (w6.alloc (.cells #[.string ⟨t0.toArray⟩] 9))) := (Below.refl _ _).alloc (Nat.le_refl _) _
      go_upto_region 11 with fail
      obtain ⟨w7, hwn⟩ : ∃ V, w6.alloc (.cells #[.string ⟨t0.toArray⟩] 9) = V := ⟨_, rfl⟩
      rw [hwn] at HBn HO0
      try rw [hwn]
      clear hwn
      obtain ⟨gb, hgb⟩ : ∃ b, w6.heap.size = b := ⟨_, rfl⟩
      have HO7 : Hid (w7.ownsRow w6.heap.size 9 1 (.slice (some ⟨gb, 0, none⟩) 1 1) 1 (mkT [t0])) := hidd (by
        have := HO0.out
        rw [hgb] at this ⊢
        exact this)
      try rw [hgb]
      have HGb := hidd hgb
      have HB7 := hidd (HB6.out.trans (HBn.out.mono HB6.out.size))
      have HBw := hidd HBn.out
      clear HBn HO0 h0 hgb
      go_wp2
      go_loopw [8, 9] (fun bv iv wr => ∃ (k q g1 c1 : Nat), iv = .int .i64 ((k : Int) - 1) ∧ k ≤ N ∧ Hid ((t0 :: (ts.drop k).reverse).length = q) ∧ bv = .slice (some ⟨g1, 0, none⟩) q c1 ∧ q + k = N + 1 ∧ wr.ownsRow w6.heap.size 9 1 (.slice (some ⟨g1, 0, none⟩) q c1) q (mkT (t0 :: (ts.drop k).reverse)) ∧ Below w6.heap.size w6 wr) (fun _ iv _ => (intOf iv + 1).toNat)
      case atStart =>
        refine ⟨N, 1, gb, 1, rfl, by omega, hidd ?_, rfl, by omega, ?_, HBw.out⟩
        · rw [List.drop_of_length_le (by rw [HN.out]; exact Nat.le_refl _)]; simp
        · rw [List.drop_of_length_le (by rw [HN.out]; exact Nat.le_refl _)]; exact HO7.out
      case round =>
        obtain ⟨k, q, g1, c1, rfl, hk, hq, rfl, hqk, hor, hbr⟩ := hrel
        have HOr := hidd hor
        have HBr := hidd hbr
        have hzr := hbr.size
        clear hor hbr HO7 HBw HB7
        rcases k with _ | K
        · have hk0 : ((0 : Nat) : Int) - 1 = -1 := by omega
          rw [hk0]
          clear hk0
          obtain rfl : q = N + 1 := by omega
          have HTb : Hid (∀ V, Below w6.heap.size w6 V → TabAt (Tryd.laysTz_ren.g 0) Lib.deBruijn32tab V) := fun V hV => tab_below HT.out (HW6.out.trans (hV.mono HW6.out.size))
          have Hq0 : Hid ((t0 :: ts.reverse).length = N + 1) := hidd (by have := hq.out; rwa [List.drop_zero] at this)
          have HIb : Hid (Calls Tryd.prog 7 #[.slice (some ⟨g1, 0, none⟩) (N + 1) c1] wr (SkQ wr P 0)) := hidd (by
            have ho := HOr.out
            rw [List.drop_zero, ← Hq0.out] at ho
            have h := implOf_any (some ⟨g1, 0, none⟩) c1 (t0 :: ts.reverse) wr (by rw [Hq0.out]; omega) (tmAt_own ho) (HTb.out wr HBr.out)
            rw [Hq0.out, ofS_ok (by rw [Hq0.out]; omega) (txsOK_mem.2 fun t ht => by
              rcases List.mem_cons.1 ht with rfl | ht
              · exact HTs.out _ (by rw [← HT0.out]; rw [List.getD_eq_getElem?_getD, List.getElem?_eq_getElem (by rw [HN.out]; omega)]; exact List.getElem_mem _)
              · exact HTs.out _ (List.mem_reverse.1 ht)), skS_back t0 ts (by rw [← HT0.out]; rw [List.getD_eq_getElem?_getD, List.getElem?_eq_getElem (by rw [HN.out]; omega)]; exact List.getElem_mem _), ← HPe.out] at h
            exact h.mono fun e w' h => h.q)
          have HBq := hidd (HB6.out.trans (HBr.out.mono HB6.out.size))
          have HKr := hidd (HK.out.below HBr.out)
          go_wp2_with fail
          refine HIb.out.mono ?_
          rintro e w9 ⟨ad9, n9, c9, rfl, hn9, hh9, hb9⟩
          obtain rfl : n9 = n4 := by rw [← hn9.out, hn4.out]
          have HB9 := hidd (HBq.out.trans (hb9.mono HBq.out.size))
          have HW9 := hidd (HBr.out.trans (hb9.mono HBr.out.size))
          have HH9 := hidd hh9
          replace HKr := hidd (HKr.out.below hb9)
          clear hh9 hb9 HBq HIb HOr HBr hzr
          go_upto_region 16 with fail
          have HBn : Hid (Below w9.heap.size w9 (w9.alloc (.cells #[.slice ad9 n9 c9] 27))) := (Below.refl _ _).alloc (Nat.le_refl _) _
          have HKn := hidd (heap_alloc_new w9 (.cells #[.slice ad9 n9 c9] 27))
          obtain ⟨w10, hwn⟩ : ∃ V, w9.alloc (.cells #[.slice ad9 n9 c9] 27) = V := ⟨_, rfl⟩
          rw [hwn] at HBn HKn
          try rw [hwn]
          clear hwn
          obtain ⟨bA, hbA⟩ : ∃ b, w9.heap.size = b := ⟨_, rfl⟩
          rw [hbA] at HKn
          try rw [hbA]
          have HA : Hid (SBx w10 bA ad9 n9 c9 P) := ⟨HKn.out, HH9.out.below HBn.out⟩
          have HB10 := hidd (HB9.out.trans (HBn.out.mono HB9.out.size))
          have HW10 := hidd (HW9.out.trans (HBn.out.mono HW9.out.size))
          replace HKr := hidd (HKr.out.below HBn.out)
          clear HBn HKn HB9 HW9 HH9 hbA
          obtain ⟨H, hH⟩ : ∃ H : Nat, (N : Int) / 2 = (H : Int) := ⟨N / 2, by omega⟩
          obtain ⟨R, hR⟩ : ∃ R : Nat, H + R = N := ⟨N - H, by omega⟩
          have hR1 : 1 ≤ R := by omega
          have hHl : (H : Int) ≤ (N : Int) := by omega
          have HZ10 : Hid (SzT w10 (.slice (some ⟨g, 0, none⟩) N cp) ts) := ⟨some ⟨g, 0, none⟩, cp, by rw [HN.out], by rw [HN.out]; exact HCp.out, HM6.out.below HW10.out⟩
          obtain ⟨vz, hvz⟩ : ∃ v, v = Value.slice (some ⟨g, 0, none⟩) N cp := ⟨_, rfl⟩
          have HVZ := hidd hvz
          have HR := hidd hR
          have HH := hidd hH
          have HIa : Hid (∀ V ad cc, Below w6.heap.size w6 V → TmAt V ad (ts.take H) → Calls Tryd.prog 7 #[.slice ad H cc] V (SkQ V (skS (ts.take H)) 0)) := fun V ad cc hV hm => by
            have hl : (ts.take H).length = H := by rw [List.length_take, HN.out]; have := HR.out; omega
            have h := implOf_any ad cc (ts.take H) V (by rw [hl]; have := HR.out; omega) hm (HTb.out V hV)
            rw [hl, ofS_ok (by rw [hl]; have := HR.out; omega) (txsOK_mem.2 fun t ht => HTs.out t (mem_of_take t ht))] at h
            exact h.mono fun e w' h => h.q
          have HIb : Hid (∀ V ad cc, Below w6.heap.size w6 V → TmAt V ad (ts.drop H) → Calls Tryd.prog 7 #[.slice ad R cc] V (SkQ V (skS (ts.drop H)) 0)) := fun V ad cc hV hm => by
            have hl : (ts.drop H).length = R := by rw [List.length_drop, HN.out]; have := HR.out; omega
            have h := implOf_any ad cc (ts.drop H) V (by rw [hl]; have := HR.out; omega) hm (HTb.out V hV)
            rw [hl, ofS_ok (by rw [hl]; have := HR.out; omega) (txsOK_mem.2 fun t ht => HTs.out t (mem_of_drop t ht))] at h
            exact h.mono fun e w' h => h.q
          go_upto_region 17 with fail
          rw [← hvz] at HZ10
          rw [← hvz]
          clear hvz hR hH
          have HHl : Hid (H ≤ ts.length ∧ H + R = ts.length ∧ ts.length ≤ 1048576) := hidd (by have := HN.out; have := HR.out; omega)
          go_wp2_with (refine wpTx_to rfl _ _ rfl vz ts H rfl rfl HZ10.out HHl.out.1 HHl.out.2.2 ?_; intro ada ca hta; have HTa := hidd hta; clear hta)
          refine (HIa.out _ _ _ HW10.out HTa.out).mono ?_
          rintro e w11 ⟨ad11, n11, c11, rfl, hn11, hh11, hb11⟩
          have HB11 := hidd (HB10.out.trans (hb11.mono HB10.out.size))
          have HW11 := hidd (HW10.out.trans (hb11.mono HW10.out.size))
          have HH11 := hidd hh11
          replace HKr := hidd (HKr.out.below hb11)
          replace HA := hidd (HA.out.below hb11)
          replace HZ10 := hidd (HZ10.out.below hb11)
          obtain rfl : n11 = 256 := by rw [← hn11.out]; exact (skS_ok _).1
          clear hh11 hb11 HB10 HW10 HTa
          go_upto_region 18 with fail
          have HBn : Hid (Below w11.heap.size w11 (w11.alloc (.cells #[.slice ad11 256 c11] 27))) := (Below.refl _ _).alloc (Nat.le_refl _) _
          have HKn := hidd (heap_alloc_new w11 (.cells #[.slice ad11 256 c11] 27))
          obtain ⟨w12, hwn⟩ : ∃ V, w11.alloc (.cells #[.slice ad11 256 c11] 27) = V := ⟨_, rfl⟩
          rw [hwn] at HBn HKn
          try rw [hwn]
          clear hwn
          obtain ⟨ba, hba⟩ : ∃ b, w11.heap.size = b := ⟨_, rfl⟩
          rw [hba] at HKn
          try rw [hba]
          have HSa : Hid (SBx w12 ba ad11 256 c11 (skS (ts.take H))) := ⟨HKn.out, HH11.out.below HBn.out⟩
          have HB12 := hidd (HB11.out.trans (HBn.out.mono HB11.out.size))
          have HW12 := hidd (HW11.out.trans (HBn.out.mono HW11.out.size))
          replace HKr := hidd (HKr.out.below HBn.out)
          replace HA := hidd (HA.out.below HBn.out)
          replace HZ10 := hidd (HZ10.out.below HBn.out)
          clear HBn HKn HB11 HW11 HH11 hba
          go_wp2_with (refine wpTx_from rfl _ _ rfl vz ts H R rfl rfl HZ10.out HHl.out.2.1 hR1 HHl.out.2.2 ?_; intro adb cb htb; have HTbb := hidd htb; clear htb)
          refine (HIb.out _ _ _ HW12.out HTbb.out).mono ?_
          rintro e w13 ⟨ad13, n13, c13, rfl, hn13, hh13, hb13⟩
          have HB13 := hidd (HB12.out.trans (hb13.mono HB12.out.size))
          have HW13 := hidd (HW12.out.trans (hb13.mono HW12.out.size))
          have HH13 := hidd hh13
          replace HKr := hidd (HKr.out.below hb13)
          replace HA := hidd (HA.out.below hb13)
          replace HSa := hidd (HSa.out.below hb13)
          obtain rfl : n13 = 256 := by rw [← hn13.out]; exact (skS_ok _).1
          clear hh13 hb13 HB12 HW12 HTbb HZ10
          go_upto_region 19 with fail
          have HBn : Hid (Below w13.heap.size w13 (w13.alloc (.cells #[.slice ad13 256 c13] 27))) := (Below.refl _ _).alloc (Nat.le_refl _) _
          have HKn := hidd (heap_alloc_new w13 (.cells #[.slice ad13 256 c13] 27))
          obtain ⟨w14, hwn⟩ : ∃ V, w13.alloc (.cells #[.slice ad13 256 c13] 27) = V := ⟨_, rfl⟩
          rw [hwn] at HBn HKn
          try rw [hwn]
          clear hwn
          obtain ⟨bb, hbb⟩ : ∃ b, w13.heap.size = b := ⟨_, rfl⟩
          rw [hbb] at HKn
          try rw [hbb]
          have HSb : Hid (SBx w14 bb ad13 256 c13 (skS (ts.drop H))) := ⟨HKn.out, HH13.out.below HBn.out⟩
          have HB14 := hidd (HB13.out.trans (HBn.out.mono HB13.out.size))
          replace HKr := hidd (HKr.out.below HBn.out)
          replace HA := hidd (HA.out.below HBn.out)
          replace HSa := hidd (HSa.out.below HBn.out)
          clear HBn HKn HB13 HW13 HH13 hbb
          have HJn : Hid (Calls Tryd.prog 9 #[.agg #[.slice ad11 256 c11], .agg #[.slice ad13 256 c13]] w14 (SkQ w14 P 0)) := hidd (by
            have h := implSkJoin_any (.slice ad11 256 c11) (.slice ad13 256 c13) (skS (ts.take H)) (skS (ts.drop H)) w14 (by rw [(skS_ok _).1]; omega) (by rw [(skS_ok _).1]; omega) HSa.out.row HSb.out.row
            rw [joS_ok (skS_SkOK _) (skS_SkOK _), skS_join, List.take_append_drop, ← HPe.out] at h
            exact h.mono fun e w' h => h.q)
          have x0 : w14.cell? ⟨ba, 0, none⟩ = some (.slice ad11 256 c11) := blkc HSa.out.box 0
          have y0 : w14.cell? ⟨bb, 0, none⟩ = some (.slice ad13 256 c13) := blkc HSb.out.box 0
          go_wp2_with fail
          refine HJn.out.mono ?_
          rintro e w15 ⟨ad15, n15, c15, rfl, hn15, hh15, hb15⟩
          obtain rfl : n15 = n9 := by rw [← hn15.out, hn9.out]
          have HB15 := hidd (HB14.out.trans (hb15.mono HB14.out.size))
          have HH15 := hidd hh15
          replace HKr := hidd (HKr.out.below hb15)
          replace HA := hidd (HA.out.below hb15)
          replace HSa := hidd (HSa.out.below hb15)
          clear hh15 hb15 HB14 x0 y0 HJn HSb
          go_upto_region 20 with fail
          have HBn : Hid (Below w15.heap.size w15 (w15.alloc (.cells #[.slice ad15 n15 c15] 27))) := (Below.refl _ _).alloc (Nat.le_refl _) _
          have HKn := hidd (heap_alloc_new w15 (.cells #[.slice ad15 n15 c15] 27))
          obtain ⟨w16, hwn⟩ : ∃ V, w15.alloc (.cells #[.slice ad15 n15 c15] 27) = V := ⟨_, rfl⟩
          rw [hwn] at HBn HKn
          try rw [hwn]
          clear hwn
          obtain ⟨bj, hbj⟩ : ∃ b, w15.heap.size = b := ⟨_, rfl⟩
          rw [hbj] at HKn
          try rw [hbj]
          have HSj : Hid (SBx w16 bj ad15 n15 c15 P) := ⟨HKn.out, HH15.out.below HBn.out⟩
          have HB16 := hidd (HB15.out.trans (HBn.out.mono HB15.out.size))
          replace HKr := hidd (HKr.out.below HBn.out)
          replace HA := hidd (HA.out.below HBn.out)
          replace HSa := hidd (HSa.out.below HBn.out)
          clear HBn HKn HB15 HH15 hbj
          have x0 : w16.cell? ⟨bA, 0, none⟩ = some (.slice ad9 n15 c9) := blkc HA.out.box 0
          have y0 : w16.cell? ⟨bk, 0, none⟩ = some (.slice ad4 n15 c4) := blkc HKr.out.box 0
          go_wp2_with fail
          refine (sameI_hold ad9 ad4 n15 c9 c4 P _ hn9.out Hn4.out HA.out.row HKr.out.row).mono ?_
          rintro e w17 ⟨rfl, hb17⟩
          have HB17 := hidd (HB16.out.trans (hb17.mono HB16.out.size))
          replace HKr := hidd (HKr.out.below hb17)
          replace HSj := hidd (HSj.out.below hb17)
          replace HSa := hidd (HSa.out.below hb17)
          clear hb17 x0 y0 HA HB16
          have x0 : w17.cell? ⟨bj, 0, none⟩ = some (.slice ad15 n15 c15) := blkc HSj.out.box 0
          have y0 : w17.cell? ⟨bk, 0, none⟩ = some (.slice ad4 n15 c4) := blkc HKr.out.box 0
          go_wp2_with fail
          refine (sameI_hold ad15 ad4 n15 c15 c4 P _ hn9.out Hn4.out HSj.out.row HKr.out.row).mono ?_
          rintro e w18 ⟨rfl, hb18⟩
          have HB18 := hidd (HB17.out.trans (hb18.mono HB17.out.size))
          replace HKr := hidd (HKr.out.below hb18)
          replace HSa := hidd (HSa.out.below hb18)
          clear hb18 x0 y0 HSj HB17
          obtain rfl : n15 = 256 := by rw [← hn9.out, HPe.out]; exact (skS_ok _).1
          go_wp2
          go_loopw [19] (fun iv wq => ∃ i : Nat, iv = .int .i64 (i : Int) ∧ i ≤ 256 ∧ Below w18.heap.size w18 wq) (fun iv _ => (256 - intOf iv).toNat)
          case atStart => exact ⟨0, rfl, by omega, Below.refl _ _⟩
          case round =>
            obtain ⟨i, rfl, hi256, hbq⟩ := hrel
            have HBq := hidd hbq
            have HKq := hidd (HKr.out.below hbq)
            have HSq := hidd (HSa.out.below hbq)
            clear hbq
            have y0 : wr.cell? ⟨bk, 0, none⟩ = some (.slice ad4 256 c4) := blkc HKq.out.box 0
            by_cases hi2 : i < 256
            · have x0 : wr.cell? ⟨ba, 0, none⟩ = some (.slice ad11 256 c11) := blkc HSq.out.box 0
              have hi2z : (i : Int) < 256 := by omega
              obtain ⟨ga, oa, rfl, _, hca⟩ := HSq.out.row.cells (i := i) (by rw [(skS_ok _).1]; exact hi2)
              obtain ⟨gk, ok, rfl, _, hck⟩ := HKq.out.row.cells (i := i) (by rw [HPe.out, (skS_ok _).1]; exact hi2)
              have hle : (skS (ts.take H)).getD i 0 ≤ P.getD i 0 := by rw [HPe.out]; exact skS_sub (fun t ht => mem_of_take t ht) i hi2
              generalize (skS (ts.take H)).getD i 0 = xa at *
              generalize P.getD i 0 = xk at *
              have hnle : ¬ xa > xk := by omega
              go_wp2
              go_quiet (fail)
              go_wp2
              go_roundw
              · exact ⟨i + 1, by go_num, by omega, below_drewN HBq.out _⟩
              · simp [intOf]; omega
            · obtain rfl : i = 256 := by omega
              have HSkP : Hid (SkOK P) := hidd (by rw [HPe.out]; exact skS_SkOK ts)
              obtain ⟨NC, hNC, hNC0⟩ := skC_ok HSkP.out
              have HCi : Hid (∀ V, HoldI V (.slice ad4 256 c4) P → Calls Tryd.prog 10 #[.agg #[.slice ad4 256 c4]] V fun e w' => e = .returned (.tuple #[.int .i64 NC, .int .i64 0]) ∧ Below V.heap.size V w') := fun V hV => by
                have h := implCount_any lenC (.slice ad4 256 c4) P V (by rw [HSkP.out.1]; omega) hV
                rw [hNC] at h; exact h
              have HCs : Hid (∀ V, HoldI V (.slice ad4 256 c4) P → Calls Tryd.prog 11 #[.agg #[.slice ad4 256 c4]] V fun e w' => e = .returned (.tuple #[.int .i64 NC, .int .i64 0]) ∧ Below V.heap.size V w') := fun V hV => by
                have h := specCount_any (.slice ad4 256 c4) P V (by rw [HSkP.out.1]; omega) hV
                rw [hNC] at h; exact h
              clear hNC
              have hee : (NC == NC) = true := by simp
              go_wp2_with fail
              refine (HCi.out _ HKq.out.row).mono ?_
              rintro e w19 ⟨rfl, hb19⟩
              have HB19 := hidd (HBq.out.trans (hb19.mono HBq.out.size))
              replace HKq := hidd (HKq.out.below hb19)
              clear hb19 y0
              have y0 : w19.cell? ⟨bk, 0, none⟩ = some (.slice ad4 256 c4) := blkc HKq.out.box 0
              go_wp2_with fail
              refine (HCs.out _ HKq.out.row).mono ?_
              rintro e w20 ⟨rfl, hb20⟩
              have HB20 := hidd (HB19.out.trans (hb20.mono HB19.out.size))
              clear hb20 y0
              go_wp2
              go_ret
              exact ⟨rfl, HB18.out.trans (HB20.out.mono HB18.out.size)⟩
        · have hKz : ((K + 1 : Nat) : Int) - 1 = (K : Int) := by omega
          rw [hKz]
          clear hKz
          obtain ⟨tk, htk⟩ : ∃ t, ts.getD K [] = t := ⟨_, rfl⟩
          have hcl : wr.cell? ⟨g, K, none⟩ = some (.string ⟨tk.toArray⟩) := by
            have := HCl.out _ HBr.out K (by omega)
            rwa [htk] at this
          have Hdb : Hid ((ts.drop (K + 1)).reverse ++ [tk] = (ts.drop K).reverse) := by
            have := drop_back ts K (by rw [HN.out]; omega)
            rw [htk] at this
            exact hidd this
          have hKN : (K : Int) < (N : Int) := by omega
          clear htk
          go_wp2_with (at_builtin; refine wpList_append_own_at _ rfl _ _ 23 rfl w6.heap.size 9 i0 (.string ⟨#[]⟩) 1 16 Tryd.underlying23 hi hz0 hz1 hz2 rfl (by decide) _ _ _ rfl (HOr.out.alloc _) ⟨wr.heap.size, 0, none⟩ 1 1 [.string ⟨tk.toArray⟩] rfl rfl ?c1 ?c2 ?c3 ?c4 ?c5 ?_)
          try case c1 =>
            intro j u hj
            match j, hj with
            | 0, hj => simp at hj; subst hj; simp [Addr.add]
          case c2 => first | rfl | (intro u hu; simp at hu; subst hu; rfl)
          case c3 => unfold maxLen; omega
          case c4 => omega
          case c5 => simp; omega
          intro v8 w8 hown8 hgrow8 hne8 hat8
          have R8 : Hid (∃ g8 cp8, v8 = .slice (some ⟨g8, 0, none⟩) (q + 1) cp8 ∧ w8.ownsRow w6.heap.size 9 1 (.slice (some ⟨g8, 0, none⟩) (q + 1) cp8) (q + 1) (mkT (t0 :: (ts.drop K).reverse)) ∧ Below w6.heap.size w6 w8) := by
            rcases own_cases hown8 with ⟨h, h'⟩ | ⟨g8, cp8, rfl, _, _⟩
            · exfalso; omega
            refine ⟨g8, cp8, rfl, ?_, (HBr.out.alloc HBr.out.size _).grown hgrow8 (by simp; omega) (own_block HOr.out)⟩
            have e0 : mkT (t0 :: (ts.drop K).reverse) = mkT (t0 :: (ts.drop (K + 1)).reverse) ++ [.string ⟨tk.toArray⟩] := by
              rw [← Hdb.out]; simp [mkT]
            rw [e0]; exact hown8
          have Hq8 : Hid ((t0 :: (ts.drop K).reverse).length = q + 1) := hidd (by
            have := hq.out
            rw [← Hdb.out, ← List.cons_append, List.length_append, this]; rfl)
          clear hown8 hgrow8 hat8 hne8 HOr HBr hq
          obtain ⟨g8, cp8, rfl, ho8, hb8⟩ := R8.out
          have R9 := hidd (And.intro ho8 hb8)
          clear ho8 hb8 R8
          go_wp2
          go_roundw
          · exact ⟨K, q + 1, g8, cp8, by go_num, by omega, Hq8, rfl, by omega, R9.out.1, R9.out.2⟩
          · simp [intOf]
  · have hlz : (2 : Int) ≠ 0 := by omega
    go_wp2
    go_ret
    exact ⟨rfl, HB6.out⟩
end Go.Proofs.YtboocdiilbcdcaaDoor
