import Derived.Test.YtefhmbnhhkgifaaDoI
namespace Go.Proofs.Ytefhmbnhhkgifaa
open Go Go.RowKit
set_option linter.unusedVariables false
set_option maxRecDepth 100000

theorem ixA0 (x y : Value) (w : World) : (Instr.index 76 (.agg #[x, y]) (.int .i64 0)).run Try.prog w = .ok x w := by
  simp [Instr.index, go_sem]
theorem ixA1 (x y : Value) (w : World) : (Instr.index 76 (.agg #[x, y]) (.int .i64 1)).run Try.prog w = .ok y w := by
  simp [Instr.index, go_sem]
theorem mTxcount (a : Option Addr) (n c : Nat) (w : World) : (method 302 87 (.slice a n c) "loop.example/g00018/impl.count").run Try.prog w = .ok (74, .slice a n c) w := by kernel_rfl
theorem mTxstorable (a : Option Addr) (n c : Nat) (w : World) : (method 302 87 (.slice a n c) "loop.example/g00018/impl.storable").run Try.prog w = .ok (75, .slice a n c) w := by kernel_rfl
theorem mTxappendTo (a : Option Addr) (n c : Nat) (w : World) : (method 302 87 (.slice a n c) "loop.example/g00018/impl.appendTo").run Try.prog w = .ok (73, .slice a n c) w := by kernel_rfl
theorem mNucount (a : Option Addr) (n c : Nat) (w : World) : (method 302 88 (.slice a n c) "loop.example/g00018/impl.count").run Try.prog w = .ok (77, .slice a n c) w := by kernel_rfl
theorem mNustorable (a : Option Addr) (n c : Nat) (w : World) : (method 302 88 (.slice a n c) "loop.example/g00018/impl.storable").run Try.prog w = .ok (78, .slice a n c) w := by kernel_rfl
theorem mNuappendTo (a : Option Addr) (n c : Nat) (w : World) : (method 302 88 (.slice a n c) "loop.example/g00018/impl.appendTo").run Try.prog w = .ok (76, .slice a n c) w := by kernel_rfl
set_option maxHeartbeats 8000000 in
theorem implStor_any (id : List UInt8) (a : Option Addr) (c : Nat) (V : List Vl) (w : World) (hn : V.length ≤ 1048576) (hT : ∀ i, (V.getD i vl0).2.1.length ≤ 1048576 ∧ (V.getD i vl0).2.2.length ≤ 1048576) (h : HoldV w a V) :
    Calls Try.prog 35 #[.agg #[.string ⟨id.toArray⟩, .slice a V.length c]] w fun e w' => e = .returned (.bool (dcOK (id, V))) ∧ Below w.heap.size w w' := by
  have HV := hidd h
  have HT := hidd hT
  clear h hT
  have HBa := hidd ((Below.refl w.heap.size w).alloc (Nat.le_refl _) (.cells #[.string ⟨id.toArray⟩, .slice a V.length c] 33))
  have HX := hidd (heap_alloc_new w (.cells #[.string ⟨id.toArray⟩, .slice a V.length c] 33))
  have hsl : (⟨id.toArray⟩ : ByteArray).size = id.length := by rw [Lib.size_eq]
  have ix0 : ∀ (x y : Value) (w : World), (Instr.index 76 (.agg #[x, y]) (.int .i64 0)).run Try.prog w = .ok x w := ixA0
  have ix1 : ∀ (x y : Value) (w : World), (Instr.index 76 (.agg #[x, y]) (.int .i64 1)).run Try.prog w = .ok y w := ixA1
  have m1 := mTxcount
  have m2 := mTxstorable
  have m3 := mNucount
  have m4 := mNustorable
  go_enter Try.func35, Try.ntmps35
  go_upto_region 1 with fail
  obtain ⟨wa, hwa⟩ : ∃ wa, w.alloc (.cells #[.string ⟨id.toArray⟩, .slice a V.length c] 33) = wa := ⟨_, rfl⟩
  rw [hwa] at HBa HX
  try rw [hwa]
  clear hwa
  have x0 := blkc HX.out 0
  have x1 := blkc HX.out 1
  by_cases hid : 65536 < id.length
  · have hidz : (id.length : Int) > 65536 := by omega
    have HO : Hid (dcOK (id, V) = false) := by show _ = _; unfold dcOK; rw [decide_eq_false (by dsimp only; omega)]; rfl
    go_wp2_with fail
    go_ret
    exact ⟨by rw [HO.out]; rfl, HBa.out⟩
  have hidz : ¬ (id.length : Int) > 65536 := by omega
  by_cases hVl : 4096 < V.length
  · have hVz : (V.length : Int) > 4096 := by omega
    have HO : Hid (dcOK (id, V) = false) := by show _ = _; unfold dcOK; rw [decide_eq_false (by dsimp only; omega)]; rfl
    go_wp2_with fail
    go_ret
    exact ⟨by rw [HO.out]; rfl, HBa.out⟩
  have hVz : ¬ (V.length : Int) > 4096 := by omega
  clear x0 x1
  have x0 := blkc HX.out 0
  have x1 := blkc HX.out 1
  go_wp2_with fail
  go_loopw [20] (fun iv wr => ∃ i : Nat, i ≤ V.length ∧ iv = .int .i64 (i : Int) ∧ (V.take i).all vlOK = true ∧ Below wa.heap.size wa wr) (fun iv _ => V.length - (intOf iv).toNat)
  case atStart => exact ⟨0, Nat.zero_le _, rfl, by simp, Below.refl _ _⟩
  case round =>
    obtain ⟨i, hi, rfl, hall, hbel⟩ := hrel
    clear x0 x1
    have HB := hidd hbel
    have HAll := hidd hall
    clear hbel hall
    by_cases hlt : i < V.length
    · have hltz : (i : Int) < (V.length : Int) := by omega
      obtain ⟨b, off, rfl, hb, hc⟩ := (HV.out.below (HBa.out.trans (HB.out.mono HBa.out.size))).resolve_left (fun e => by rw [e] at hlt; simp at hlt)
      obtain ⟨c0, ⟨at_, ct, c1, hTx⟩, an, cn, c2, hZ⟩ := hc i hlt
      have hTi := HT.out i
      obtain ⟨v, hv⟩ : ∃ v, V.getD i vl0 = v := ⟨_, rfl⟩
      rw [hv] at c0 c1 c2 hTx hZ hTi
      have Hv := hidd hv
      obtain ⟨f, tx, nz⟩ := v
      dsimp only at c0 c1 c2 hTx hZ hTi
      have HTx := hidd hTx
      have HZ := hidd hZ
      clear hc hTx hZ hv
      have hfl : (⟨f.toArray⟩ : ByteArray).size = f.length := by rw [Lib.size_eq]
      have HBv := hidd ((Below.refl wr.heap.size wr).alloc (Nat.le_refl _) (.cells #[.string ⟨f.toArray⟩, .slice at_ tx.length ct, .slice an nz.length cn] 65))
      have HXv := hidd (heap_alloc_new wr (.cells #[.string ⟨f.toArray⟩, .slice at_ tx.length ct, .slice an nz.length cn] 65))
      have HNo : Hid (vlOK (f, tx, nz) = false → dcOK (id, V) = false) := fun h => dcOK_bad (d := (id, V)) hlt (by show vlOK (V.getD i vl0) = false; rw [Hv.out]; exact h)
      go_upto_region 6 with fail
      obtain ⟨wv, hwv⟩ : ∃ wv, wr.alloc (.cells #[.string ⟨f.toArray⟩, .slice at_ tx.length ct, .slice an nz.length cn] 65) = wv := ⟨_, rfl⟩
      rw [hwv] at HBv HXv
      try rw [hwv]
      clear hwv c0 c1 c2
      have HBw := hidd (HBa.out.trans ((HB.out.trans (HBv.out.mono HB.out.size)).mono HBa.out.size))
      have v0 := blkc HXv.out 0
      have v1 := blkc HXv.out 1
      have v2 := blkc HXv.out 2
      by_cases hf : 65536 < f.length
      · have hfz : (f.length : Int) > 65536 := by omega
        have HO := hidd (HNo.out (by unfold vlOK; rw [decide_eq_false (by dsimp only; omega)]; rfl))
        go_wp2_with fail
        go_ret
        exact ⟨by rw [HO.out]; rfl, HBw.out⟩
      have hfz : ¬ (f.length : Int) > 65536 := by omega
      have HC := hidd (contents_any f at_ an tx.length ct nz.length cn wv)
      go_wp2_with fail
      refine HC.out.mono ?_
      rintro e w5 ⟨rfl, hb5⟩
      have HB5 := hidd hb5
      have HBo := hidd (HBw.out.trans (hb5.mono HBw.out.size))
      clear hb5 HC v0 v1 v2
      dsimp only
      go_wp2_with fail
      go_loopw [30] (fun kv wx => ∃ k : Nat, k ≤ 2 ∧ kv = .int .i64 (k : Int) ∧ (1 ≤ k → tx.length ≤ 4096 ∧ tx.all txOK = true) ∧ (2 ≤ k → nz.length ≤ 4096 ∧ nz.all nuOK = true) ∧ Below w5.heap.size w5 wx) (fun kv _ => 2 - (intOf kv).toNat)
      case atStart => exact ⟨0, by omega, rfl, fun h => absurd h (by omega), fun h => absurd h (by omega), Below.refl _ _⟩
      case round =>
        obtain ⟨k, hk, rfl, h1, h2, hbx⟩ := hrel
        have HBx := hidd hbx
        clear hbx
        have hk3 : k = 0 ∨ k = 1 ∨ k = 2 := by omega
        rcases hk3 with rfl | rfl | rfl
        · clear h1 h2
          have HC1 := hidd (txCount_any at_ tx.length ct wr hTi.1)
          have HS1 := hidd (txStor_any at_ ct tx wr hTi.1 (HTx.out.below (HBv.out.trans ((HB5.out.trans (HBx.out.mono HB5.out.size)).mono HBv.out.size))))
          go_wp2_with fail
          refine HC1.out.mono ?_
          rintro e w6 ⟨rfl, hw6⟩
          have hw7 := hw6.symm
          subst hw7
          clear hw6 HC1
          dsimp only
          by_cases hxl : 4096 < tx.length
          · have hxz : (tx.length : Int) > 4096 := by omega
            have HO := hidd (HNo.out (by unfold vlOK; rw [decide_eq_false (by dsimp only; omega)]; rfl))
            clear HS1
            go_wp2_with fail
            go_ret
            exact ⟨by rw [HO.out]; rfl, HBo.out.trans (HBx.out.mono HBo.out.size)⟩
          have hxz : ¬ (tx.length : Int) > 4096 := by omega
          go_wp2_with fail
          refine HS1.out.mono ?_
          rintro e w6 ⟨rfl, hw6⟩
          have hw7 := hw6.symm
          subst hw7
          clear hw6 HS1
          dsimp only
          cases hal : tx.all txOK with
          | false =>
            have HO := hidd (HNo.out (by unfold vlOK; dsimp only; rw [hal]; simp))
            clear hal
            go_wp2_with fail
            go_ret
            exact ⟨by rw [HO.out]; rfl, HBo.out.trans (HBx.out.mono HBo.out.size)⟩
          | true =>
            have Hal := hidd hal
            clear hal
            go_wp2_with fail
            go_roundw
            case rel => exact ⟨1, by omega, by go_num, fun _ => ⟨by omega, Hal.out⟩, fun h => absurd h (by omega), HBx.out⟩
            case measure => simp [intOf]
        · have H1 := hidd (h1 (by omega))
          clear h1 h2
          have HC1 := hidd (nuCount_any an nz.length cn wr hTi.2)
          have HS1 := hidd (nuStor_any an cn nz wr hTi.2 (HZ.out.below (HBv.out.trans ((HB5.out.trans (HBx.out.mono HB5.out.size)).mono HBv.out.size))))
          go_wp2_with fail
          refine HC1.out.mono ?_
          rintro e w6 ⟨rfl, hw6⟩
          have hw7 := hw6.symm
          subst hw7
          clear hw6 HC1
          dsimp only
          by_cases hxl : 4096 < nz.length
          · have hxz : (nz.length : Int) > 4096 := by omega
            have HO := hidd (HNo.out (by unfold vlOK; rw [decide_eq_false (by dsimp only; omega)]; rfl))
            clear HS1
            go_wp2_with fail
            go_ret
            exact ⟨by rw [HO.out]; rfl, HBo.out.trans (HBx.out.mono HBo.out.size)⟩
          have hxz : ¬ (nz.length : Int) > 4096 := by omega
          go_wp2_with fail
          refine HS1.out.mono ?_
          rintro e w6 ⟨rfl, hw6⟩
          have hw7 := hw6.symm
          subst hw7
          clear hw6 HS1
          dsimp only
          cases hal : nz.all nuOK with
          | false =>
            have HO := hidd (HNo.out (by unfold vlOK; dsimp only; rw [hal]; simp))
            clear hal
            go_wp2_with fail
            go_ret
            exact ⟨by rw [HO.out]; rfl, HBo.out.trans (HBx.out.mono HBo.out.size)⟩
          | true =>
            have Hal := hidd hal
            clear hal
            go_wp2_with fail
            go_roundw
            case rel => exact ⟨2, by omega, by go_num, fun _ => H1.out, fun _ => ⟨by omega, Hal.out⟩, HBx.out⟩
            case measure => simp [intOf]
        · have h1 := h1 (by omega)
          have h2 := h2 (by omega)
          have HA3 := hidd (all_take vlOK V vl0 hlt HAll.out (by rw [Hv.out]; unfold vlOK; dsimp only; rw [h1.2, h2.2, decide_eq_true (by omega)]; rfl))
          clear h1 h2
          go_wp2_with fail
          go_roundw
          case rel => exact ⟨i + 1, by omega, by go_num, HA3.out, HB.out.trans ((HBv.out.trans ((HB5.out.trans (HBx.out.mono HB5.out.size)).mono HBv.out.size)).mono HB.out.size)⟩
          case measure => simp [intOf]; omega
    · have hltz : ¬ (i : Int) < (V.length : Int) := by omega
      have HO : Hid (dcOK (id, V) = true) := by
        show _ = _
        have := HAll.out
        rw [show i = V.length by omega, List.take_length] at this
        unfold dcOK
        rw [decide_eq_true (by dsimp only; omega), this]; rfl
      go_wp2_with fail
      go_ret
      exact ⟨by rw [HO.out]; rfl, HBa.out.trans (HB.out.mono HBa.out.size)⟩
end Go.Proofs.Ytefhmbnhhkgifaa
