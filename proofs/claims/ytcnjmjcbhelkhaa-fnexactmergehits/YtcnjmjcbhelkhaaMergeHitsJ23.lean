import Derived.Test.YtcnjmjcbhelkhaaMergeHitsJ21
import Derived.Test.YtcnjmjcbhelkhaaMergeHitsJ22
import Derived.WalkKit
import Derived.ProofKit
import Derived.OpenShut
import Derived.Deep.SlicePairs
import Derived.ChangeOld
import Derived.Below
namespace Go.Proofs.Ytcnjmjcbhelkhaa
open Go Go.RowKit
set_option linter.unusedVariables false
set_option linter.unusedSimpArgs false
set_option maxRecDepth 100000

/-! The law of MergeHits. -/
/-- What the law holds on to. -/
structure LW (w W : World) (b0 b1 b2 b3 : Nat) (a0 : Option Addr) (n0 c0 : Nat) (xs0 : List Value) (a1 : Option Addr) (n1 c1 : Nat) (xs1 : List Value) (F : List Fd) : Prop where
  base : Below w.heap.size w W
  want : AnsF W b0 b1 (.slice a0 n0 c0) F xs0
  got : AnsF W b2 b3 (.slice a1 n1 c1) F xs1
  lo : w.heap.size ≤ b0
  mid : b1 ≤ b2
  le : b3 ≤ W.heap.size
  le1 : b1 ≤ W.heap.size
  lo2 : w.heap.size ≤ b2
theorem LW.below {w W W' : World} {b0 b1 b2 b3 : Nat} {a0 : Option Addr} {n0 c0 : Nat} {xs0 : List Value} {a1 : Option Addr} {n1 c1 : Nat} {xs1 : List Value} {F : List Fd} (h : LW w W b0 b1 b2 b3 a0 n0 c0 xs0 a1 n1 c1 xs1 F) (hb : Below W.heap.size W W') : LW w W' b0 b1 b2 b3 a0 n0 c0 xs0 a1 n1 c1 xs1 F :=
  ⟨h.base.trans (hb.mono h.base.size), h.want.keep fun b _ _ _ h2 _ _ => hb.block b (Nat.lt_of_lt_of_le h2 h.le1), h.got.keep fun b _ _ _ h2 _ _ => hb.block b (Nat.lt_of_lt_of_le h2 h.le), h.lo, h.mid, Nat.le_trans h.le hb.size, Nat.le_trans h.le1 hb.size, h.lo2⟩
theorem LW.fw {w W W' : World} {b0 b1 b2 b3 lo hi : Nat} {a0 : Option Addr} {n0 c0 : Nat} {xs0 : List Value} {a1 : Option Addr} {n1 c1 : Nat} {xs1 : List Value} {F : List Fd} (h : LW w W b0 b1 b2 b3 a0 n0 c0 xs0 a1 n1 c1 xs1 F) (hf : Fw lo hi W W') (h1 : b1 ≤ lo) (h2 : hi ≤ b2) (h3 : w.heap.size ≤ lo) : LW w W' b0 b1 b2 b3 a0 n0 c0 xs0 a1 n1 c1 xs1 F :=
  ⟨h.base.trans ⟨hf.os, hf.tape, hf.output, hf.size, fun b hb => hf.out b (Or.inl (by omega)) (Nat.lt_of_lt_of_le hb h.base.size)⟩, h.want.keep fun b _ _ _ q _ _ => hf.out b (Or.inl (by omega)) (Nat.lt_of_lt_of_le q h.le1), h.got.keep fun b _ _ q0 q _ _ => hf.out b (Or.inr (by omega)) (Nat.lt_of_lt_of_le q h.le), h.lo, h.mid, Nat.le_trans h.le hf.size, Nat.le_trans h.le1 hf.size, h.lo2⟩
/-- The same, once the answer is written over. -/
structure LX (w W : World) (b0 b1 b2 b3 : Nat) (a0 : Option Addr) (n0 c0 : Nat) (xs0 : List Value) (va : Value) (F : List Fd) : Prop where
  base : Below w.heap.size w W
  want : AnsF W b0 b1 (.slice a0 n0 c0) F xs0
  got : ∃ xs, MkF W b2 b3 va (lensF F) xs 1 (lensF F).length
  le : b3 ≤ W.heap.size
  le1 : b1 ≤ W.heap.size
theorem LX.below {w W W' : World} {b0 b1 b2 b3 : Nat} {a0 : Option Addr} {n0 c0 : Nat} {xs0 : List Value} {va : Value} {F : List Fd} (h : LX w W b0 b1 b2 b3 a0 n0 c0 xs0 va F) (hb : Below W.heap.size W W') : LX w W' b0 b1 b2 b3 a0 n0 c0 xs0 va F := by
  obtain ⟨xs, hx⟩ := h.got
  exact ⟨h.base.trans (hb.mono h.base.size), h.want.keep fun b _ _ _ h2 _ _ => hb.block b (Nat.lt_of_lt_of_le h2 h.le1), ⟨xs, hx.below h.le hb⟩, Nat.le_trans h.le hb.size, Nat.le_trans h.le1 hb.size⟩
theorem LW.mark {w W W' : World} {b0 b1 b2 b3 : Nat} {a0 : Option Addr} {n0 c0 : Nat} {xs0 : List Value} {a1 : Option Addr} {n1 c1 : Nat} {xs1 : List Value} {F : List Fd} (h : LW w W b0 b1 b2 b3 a0 n0 c0 xs0 a1 n1 c1 xs1 F) (hf : MkFr b2 b3 W W') (hm : ∃ xs, MkF W' b2 b3 (.slice a1 n1 c1) (lensF F) xs 1 (lensF F).length) : LX w W' b0 b1 b2 b3 a0 n0 c0 xs0 (.slice a1 n1 c1) F :=
  ⟨h.base.trans ⟨hf.1, hf.2.1, hf.2.2.1, hf.2.2.2.1, fun b hb => hf.2.2.2.2 b (Or.inl (by have := h.lo2; omega)) (Nat.lt_of_lt_of_le hb h.base.size)⟩, h.want.keep fun b _ _ _ q _ _ => hf.2.2.2.2 b (Or.inl (by have := h.mid; omega)) (Nat.lt_of_lt_of_le q h.le1), hm, Nat.le_trans h.le hf.2.2.2.1, Nat.le_trans h.le1 hf.2.2.2.1⟩
set_option maxHeartbeats 16000000 in
theorem mergeLaw_any (w : World) (sa : Option Addr) (sc : Nat) (ks : List (Tx × Bool)) (la : Option Addr) (lc : Nat) (L : List (List Fd)) (size : Int) (hS : HoldSK w sa ks) (hL : HoldFF w la L) (hkn : ks.length ≤ 9223372036854775807) (hLn : L.length ≤ 9223372036854775807)
    (hA : ∀ i, (L.getD i []).length ≤ 9223372036854775807 ∧ ∀ j, FdLen ((L.getD i []).getD j fd0)) (hK : ∀ i, (ks.getD i ([], false)).1.length ≤ 9223372036854775807) :
    Calls Try.prog 3 #[.slice la L.length lc, .slice sa ks.length sc, .int .i64 size] w fun e w' => e = .returned (.bool true) ∧ Below w.heap.size w w' := by
  have HZ1 := hidd (szFoundSS_any la lc L 1048576 w (by omega) (by omega) hLn hA hL)
  have hle1 := szFF_le 1048576 L (by omega)
  obtain ⟨R, hR⟩ : ∃ R, szFF 1048576 L = R := ⟨_, rfl⟩
  rw [hR] at HZ1 hle1
  have HS := hidd hS
  have HL := hidd hL
  have HK := hidd hK
  clear hS hL hA hK
  go_enter Try.func3, Try.ntmps3
  go_wp2_with fail
  refine HZ1.out.mono ?_
  rintro e w1 ⟨rfl, hb1⟩
  have HB1 := hidd hb1
  clear hb1 HZ1
  dsimp only
  by_cases hRn : R < 0
  · go_wp2_with fail
    go_ret
    exact ⟨rfl, HB1.out⟩
  have HZ2 := hidd (szSortKeyS_any sa sc ks R w1 (by omega) hle1.2 hkn HK.out (HS.out.below HB1.out))
  have hle2 := szKs_le R ks (by omega)
  obtain ⟨R2, hR2⟩ : ∃ R2, szKs R ks = R2 := ⟨_, rfl⟩
  rw [hR2] at HZ2 hle2
  go_wp2_with fail
  refine HZ2.out.mono ?_
  rintro e w2 ⟨rfl, hb2⟩
  have HB2 := hidd (HB1.out.trans (hb2.mono HB1.out.size))
  clear hb2 HZ2 HB1
  dsimp only
  by_cases hR2n : R2 < 0
  · go_wp2_with fail
    go_ret
    exact ⟨rfl, HB2.out⟩
  have hszF : 0 ≤ szFF 1048576 L := by rw [hR]; omega
  obtain ⟨hLs, hLr⟩ := szFF_mem hszF
  have hks := szKs_mem hle1.2 (l := ks) (by rw [hR2]; omega)
  have hkw := kW_small hszF
  have HTL : Hid (∀ W, Below w.heap.size w W → Calls Try.prog 7 #[.slice la L.length lc] W fun e w' => e = .returned (.slice (some ⟨W.heap.size, 0, none⟩) L.length L.length) ∧ FFAt w' W.heap.size L ∧ Below W.heap.size W w') := fun W hW => toFoundSS_any la lc L W hLs (fun i => ⟨(hLr i).1, fun j => ((hLr i).2 j).2⟩) (HL.out.below hW)
  have HTK : Hid (∀ W, Below w.heap.size w W → Calls Try.prog 8 #[.slice sa ks.length sc] W fun e w' => e = .returned (.slice (some ⟨W.heap.size, 0, none⟩) ks.length ks.length) ∧ SkAt w' W.heap.size ks ∧ Below W.heap.size W w') := fun W hW => toSortKeyS_any sa sc ks W hks (HS.out.below hW)
  have HSp : Hid (∀ W a b, HoldFF W a L → HoldSK W b ks → Calls Try.prog 6 #[.slice a L.length L.length, .slice b ks.length ks.length, .int .i64 size] W (MhAns (dsOf ks) L size W)) := fun W a b h1 h2 => specMerge_any W b ks.length ks a L.length L size h2 h1 hks hLs (fun i _ => (hLr i).1)
  have HIm : Hid (∀ W a b, HoldFF W a L → HoldSK W b ks → Calls Try.prog 9 #[.slice a L.length L.length, .slice b ks.length ks.length, .int .i64 size] W (MhAns (dsOf ks) L size W)) := fun W a b h1 h2 => implMerge_any W b ks.length ks a L.length L size h2 h1 hks hLs (fun i _ => (hLr i).1) (fun i f hf => by
    obtain ⟨j, hj, rfl⟩ := List.getElem_of_mem hf
    have := ((hLr i).2 j).1
    rw [List.getD_eq_getElem?_getD, List.getElem?_eq_getElem hj] at this
    exact this)
  have HLr := hidd hLr
  obtain ⟨hF1, hF2⟩ := mhL_small (dsOf ks) L size
  unfold MhAns at HSp HIm
  obtain ⟨F, hF⟩ : ∃ F, mhL (dsOf ks) L size = F := ⟨_, rfl⟩
  obtain ⟨C, hC⟩ : ∃ C, mhC (dsOf ks) L size = C := ⟨_, rfl⟩
  rw [hF, hC] at HSp HIm
  rw [hF] at hF1 hF2
  have HF2 := hidd hF2
  have HKw := hidd hkw
  have hcn : (C != C) = false := by simp
  clear hLr hF hC hF2 hR hR2 hszF hkw HS HL HK
  go_wp2_with fail
  refine (HTL.out _ HB2.out).mono ?_
  rintro e w3 ⟨rfl, hf3, hb3⟩
  have HX3 := hidd hf3
  have HB3 := hidd (HB2.out.trans (hb3.mono HB2.out.size))
  clear hf3 hb3
  dsimp only
  go_wp2_with fail
  refine (HTK.out _ HB3.out).mono ?_
  rintro e w4 ⟨rfl, hk4, hb4⟩
  have HB4 := hidd (HB3.out.trans (hb4.mono HB3.out.size))
  have HC4 := hidd (HSp.out w4 _ _ (HX3.out.below hb4).hold hk4.hold)
  clear hk4 hb4 HX3
  dsimp only
  go_wp2_with fail
  refine HC4.out.mono ?_
  rintro e w5 ⟨a0, n0, c0, xs0, rfl, hans0, hb5⟩
  have HB5 := hidd (HB4.out.trans (hb5.mono HB4.out.size))
  have HA0 := hidd hans0
  have hlo5 := Nat.le_trans HB4.out.size (Nat.le_refl w4.heap.size)
  clear hans0 hb5 HC4 HSp
  dsimp only
  go_wp2_with fail
  refine (HTL.out _ HB5.out).mono ?_
  rintro e w6 ⟨rfl, hf6, hb6⟩
  have HB6 := hidd (HB5.out.trans (hb6.mono HB5.out.size))
  have HX6 := hidd hf6
  have HY6 := hidd hb6
  clear hf6 hb6
  dsimp only
  go_wp2_with fail
  refine (HTK.out _ HB6.out).mono ?_
  rintro e w7 ⟨rfl, hk7, hb7⟩
  have HB7 := hidd (HB6.out.trans (hb7.mono HB6.out.size))
  have HX7 := hidd (HX6.out.below hb7)
  have HW7 := hidd ((HX6.out.sh (lo := w5.heap.size) (Nat.le_refl _)).fw (Fw.of (lo := w5.heap.size) (hi := w6.heap.size) hb7))
  have HK7 := hidd hk7
  have HY7 := hidd (HY6.out.trans (hb7.mono HY6.out.size))
  have hz67 := hb7.size
  have hz67' : w6.heap.size < w7.heap.size := hk7.lt
  have hz56 := HY6.out.size
  have HC7 := hidd (HIm.out w7 _ _ HX7.out.hold hk7.hold)
  clear hk7 hb7 HX6 HY6
  dsimp only
  go_wp2_with fail
  refine HC7.out.mono ?_
  rintro e w8 ⟨a1, n1, c1, xs1, rfl, hans1, hb8⟩
  have HX8 := hidd (HX7.out.below hb8)
  have HW8 := hidd (HW7.out.fw (Fw.of (lo := w5.heap.size) (hi := w6.heap.size) hb8))
  have HK8 := hidd (HK7.out.below hb8)
  have HL8 : Hid (LW w w8 w4.heap.size w5.heap.size w7.heap.size w8.heap.size a0 n0 c0 xs0 a1 n1 c1 xs1 F) := by
    have hy := HY7.out.trans (hb8.mono HY7.out.size)
    exact ⟨HB7.out.trans (hb8.mono HB7.out.size), HA0.out.keep fun b _ _ _ h2 _ _ => hy.block b h2, hans1, HB4.out.size, by omega, Nat.le_refl _, by have := hb8.size; omega, HB7.out.size⟩
  obtain ⟨en0, hh0⟩ := HL8.out.want.hold
  obtain ⟨en1, hh1⟩ := HL8.out.got.hold
  subst en0 en1
  have HE : Hid (∀ W a b c d, HoldFd W a F → HoldFd W b F → Calls Try.prog 10 #[.slice a F.length c, .slice b F.length d] W fun e w' => e = .returned (.bool true) ∧ Below W.heap.size W w') := fun W a b c d h1 h2 => eqFoundS_any a b c d F W (by omega) (fun i => by have := HF2.out i; omega) h1 h2
  have HE8 := hidd (HE.out w8 a1 a0 c1 c0 hh1 hh0)
  have hzz : w5.heap.size ≤ w6.heap.size ∧ w6.heap.size ≤ w7.heap.size ∧ w.heap.size ≤ w5.heap.size ∧ w6.heap.size < w7.heap.size := ⟨hz56, hz67, HB5.out.size, hz67'⟩
  have Hzz := hidd hzz
  clear hans1 hb8 HC7 HX7 HK7 HW7 HY7 hh0 hh1 HB2 HB3 HB4 HB6 HB7 hzz hz56 hz67 hz67' hlo5 HA0
  dsimp only
  go_wp2_with fail
  refine HE8.out.mono ?_
  rintro e w9 ⟨rfl, hb9⟩
  have HL9 := hidd (HL8.out.below hb9)
  have HX9 := hidd (HX8.out.below hb9)
  have HW9 := hidd (HW8.out.fw (Fw.of (lo := w5.heap.size) (hi := w6.heap.size) hb9))
  have HK9 := hidd (HK8.out.below hb9)
  clear hb9 HE8 HL8 HX8 HW8 HK8
  dsimp only
  go_wp2_with fail
  refine (HTL.out _ HL9.out.base).mono ?_
  rintro e w10 ⟨rfl, hf10, hb10⟩
  have HL10 := hidd (HL9.out.below hb10)
  have HX10 := hidd (HX9.out.below hb10)
  have HW10 := hidd (HW9.out.fw (Fw.of (lo := w5.heap.size) (hi := w6.heap.size) hb10))
  have HK10 := hidd (HK9.out.below hb10)
  have HE10 := hidd (eqFoundSS_any _ _ L.length L.length L w10 hLs (fun i => ⟨(HLr.out i).1, fun j => ((HLr.out i).2 j).2⟩) HX10.out.hold hf10.hold)
  clear hb10 hf10 HL9 HX9 HW9 HK9
  dsimp only
  go_wp2_with fail
  refine HE10.out.mono ?_
  rintro e w11 ⟨rfl, hb11⟩
  have HL11 := hidd (HL10.out.below hb11)
  have HW11 := hidd (HW10.out.fw (Fw.of (lo := w5.heap.size) (hi := w6.heap.size) hb11))
  have HK11 := hidd (HK10.out.below hb11)
  clear hb11 HE10 HL10 HX10 HW10 HK10
  dsimp only
  go_wp2_with fail
  refine (HTK.out _ HL11.out.base).mono ?_
  rintro e w12 ⟨rfl, hk12, hb12⟩
  have HL12 := hidd (HL11.out.below hb12)
  have HW12 := hidd (HW11.out.fw (Fw.of (lo := w5.heap.size) (hi := w6.heap.size) hb12))
  have HK12 := hidd (HK11.out.below hb12)
  have HE12 := hidd (eqSortKeyS_any _ _ ks.length ks.length ks w12 hks HK12.out.hold hk12.hold)
  clear hb12 hk12 HL11 HW11 HK11
  dsimp only
  go_wp2_with fail
  refine HE12.out.mono ?_
  rintro e w13 ⟨rfl, hb13⟩
  have HL13 := hidd (HL12.out.below hb13)
  have HW13 := hidd (HW12.out.fw (Fw.of (lo := w5.heap.size) (hi := w6.heap.size) hb13))
  have HK13 := hidd (HK12.out.below hb13)
  have hlw : (lensW L).length = L.length := by simp [lensW]
  have HM13 := hidd (markFoundSSC w5.heap.size w6.heap.size w5.heap.size L.length 1 (lensW L) w13 (by omega) (fun i => by
    rw [lensW_at]
    refine ⟨by rw [show (lensF (L.getD i [])).length = (L.getD i []).length by simp [lensF]]; exact (HLr.out i).1, fun j => ?_⟩
    by_cases hj : j < (L.getD i []).length
    · rw [lensF_at _ j hj]; exact ((HLr.out i).2 j).2
    · rw [List.getD_eq_getElem?_getD, List.getElem?_eq_none (by rw [show (lensF (L.getD i [])).length = (L.getD i []).length by simp [lensF]]; omega)]; simp) (by omega) (Nat.le_trans HKw.out (by omega)) HW13.out)
  rw [hlw] at HM13
  have hkw := HKw.out
  rw [hlw] at hkw
  have hkw1 : 1 ≤ kW (lensW L) 1 L.length := kW_mono (lensW L) 1 (Nat.zero_le _)
  obtain ⟨K, hKe⟩ : ∃ K, kW (lensW L) 1 L.length = K := ⟨_, rfl⟩
  rw [hKe] at HM13 hkw hkw1
  clear hb13 HE12 HL12 HW12 HK12 hlw hKe HKw HW13
  dsimp only
  go_wp2_with fail
  refine HM13.out.mono ?_
  rintro e w14 ⟨rfl, hf14⟩
  have HL14 := hidd (HL13.out.fw hf14 (Nat.le_refl _) Hzz.out.2.1 Hzz.out.2.2.1)
  have HR14 := hidd (HK13.out.row.fw hf14)
  have HM14 := hidd (markSortKeySC w6.heap.size w7.heap.size w6.heap.size ks.length ks.length K w14 (Nat.le_refl _) Hzz.out.2.2.2 hks hkw1 (by omega) HR14.out)
  clear hf14 HM13 HL13 HK13
  dsimp only
  go_wp2_with fail
  refine HM14.out.mono ?_
  rintro e w15 ⟨rfl, hf15⟩
  have HL15 := hidd (HL14.out.fw hf15 Hzz.out.1 (Nat.le_refl _) (Nat.le_trans Hzz.out.2.2.1 Hzz.out.1))
  clear hf15 HM14 HL14 HR14
  have HE15 := hidd (HE.out w15 a1 a0 c1 c0 HL15.out.got.hold.2 HL15.out.want.hold.2)
  dsimp only
  go_wp2_with fail
  refine HE15.out.mono ?_
  rintro e w16 ⟨rfl, hb16⟩
  have HL16 := hidd (HL15.out.below hb16)
  have hlf : (lensF F).length = F.length := by simp [lensF]
  have HM16 := hidd (markFoundSX w7.heap.size w8.heap.size 1 (.slice a1 F.length c1) (lensF F) xs1 w16 HL16.out.le (by omega) (lensF_small HF2.out) (by omega) (by omega) (HL16.out.got.mks 1))
  have HH : Hid (∀ W xs, w8.heap.size ≤ W.heap.size → MkF W w7.heap.size w8.heap.size (.slice a1 F.length c1) (lensF F) xs 1 (lensF F).length → Calls Try.prog 16 #[.slice a1 F.length c1, .int .i64 1] W fun e w' => e = .returned (.int .i64 ((kF (lensF F) 1 (lensF F).length : Nat) : Int)) ∧ Below W.heap.size W w') := fun W xs hW hm => heldFoundSX w7.heap.size w8.heap.size 1 (.slice a1 F.length c1) (lensF F) xs W hW (by omega) (lensF_small HF2.out) (by omega) (by omega) hm
  obtain ⟨M, hMe⟩ : ∃ M, kF (lensF F) 1 (lensF F).length = M := ⟨_, rfl⟩
  rw [hMe] at HM16 HH
  have hMn : ¬ ((M : Int) < 0) := by omega
  have hMm : ((M : Int) != (M : Int)) = false := by simp
  clear hb16 HE15 HL15 hlf hMe
  dsimp only
  go_wp2_with fail
  refine HM16.out.mono ?_
  rintro e w17 ⟨rfl, hm17, hf17⟩
  have HL17 := hidd (HL16.out.mark hf17 hm17)
  clear hm17 hf17 HM16 HL16
  obtain ⟨ys, hys⟩ := HL17.out.got
  have HH17 := hidd (HH.out w17 ys HL17.out.le hys)
  clear hys
  dsimp only
  go_wp2_with fail
  refine HH17.out.mono ?_
  rintro e w18 ⟨rfl, hb18⟩
  have HL18 := hidd (HL17.out.below hb18)
  clear hb18 HH17 HL17
  dsimp only
  go_wp2_with fail
  refine (HTL.out _ HL18.out.base).mono ?_
  rintro e w19 ⟨rfl, hf19, hb19⟩
  have HL19 := hidd (HL18.out.below hb19)
  have HX19 := hidd hf19
  clear hf19 hb19 HL18
  dsimp only
  go_wp2_with fail
  refine (HTK.out _ HL19.out.base).mono ?_
  rintro e w20 ⟨rfl, hk20, hb20⟩
  have HL20 := hidd (HL19.out.below hb20)
  have HC20 := hidd (HIm.out w20 _ _ (HX19.out.below hb20).hold hk20.hold)
  clear hk20 hb20 HL19 HX19
  dsimp only
  go_wp2_with fail
  refine HC20.out.mono ?_
  rintro e w21 ⟨a2, n2, c2, xs2, rfl, hans2, hb21⟩
  have HL21 := hidd (HL20.out.below hb21)
  obtain ⟨en2, hh2⟩ := hans2.hold
  subst en2
  have HE21 := hidd (HE.out w21 a2 a0 c2 c0 hh2 HL21.out.want.hold.2)
  clear hans2 hh2 hb21 HC20 HL20
  dsimp only
  go_wp2_with fail
  refine HE21.out.mono ?_
  rintro e w22 ⟨rfl, hb22⟩
  have HL22 := hidd (HL21.out.below hb22)
  obtain ⟨zs, hzs⟩ := HL22.out.got
  have HH22 := hidd (HH.out w22 zs HL22.out.le hzs)
  clear hb22 hzs HE21 HL21
  dsimp only
  go_wp2_with fail
  refine HH22.out.mono ?_
  rintro e w23 ⟨rfl, hb23⟩
  have HL23 := hidd (HL22.out.below hb23)
  clear hb23 HH22 HL22
  dsimp only
  go_wp2_with fail
  go_ret
  exact ⟨rfl, HL23.out.base⟩
end Go.Proofs.Ytcnjmjcbhelkhaa

namespace Go.Proofs.Ytcnjmjcbhelkhaa
open Go Go.RowKit Go.ChangeShapes Go.WideShapes Go.ChangeAt
set_option linter.unusedVariables false

theorem str_list (s : ByteArray) : s = ⟨s.data.toList.toArray⟩ := by simp
set_option maxRecDepth 100000 in
theorem openNz {H : Type} {enc : TypeId × Value → H} {W : World} {n : Nat} {v : Value} {x : DataW H × List MemPlace} (h : DataW.trod enc Try.prog W 0 (fun _ => true) true n 45 [v] = some x) :
    ∃ (a : Option Addr) (cap : Nat) (l : List Int), v = .slice a l.length cap ∧ l.length ≤ 9223372036854775807 ∧ HoldZ W a l := by
  rcases Deep.open_slice Try.underlying45 h with ⟨hcs, _⟩ | ⟨a, len, cap, m, k, D, Pl, hcs, _, hl, hm, hmm, _, hx⟩
  · simp only [List.cons.injEq, and_true] at hcs
    subst hcs
    exact ⟨none, 0, [], rfl, by simp, Or.inl rfl⟩
  · simp only [List.cons.injEq, and_true] at hcs
    subst hcs
    have hmc : m = cap := by simpa using hmm
    have hce : Try.prog.cellsOf 3 = 1 := by kernel_rfl
    have each : ∀ i, i < m → ∃ q : Int, W.cell? (a.add i) = some (.int .i64 q) := fun i hi => by
      obtain ⟨cs', h1, h2⟩ := hx i hi
      rw [hce] at h1
      obtain ⟨_, hlen, hcell⟩ := World.cells?_some h1
      match cs', hlen with
      | [v0], _ =>
        have c0 := hcell 0 (by omega)
        rw [Deep.add_add] at c0
        obtain ⟨z, e0, _, _⟩ := DataW.trod_int Try.underlying3 h2
        simp only [List.cons.injEq, and_true] at e0
        subst e0
        exact ⟨z, by simpa using c0⟩
    obtain ⟨q, hq⟩ := Deep.choose_lt each
    have hg : ∀ t, t < len → ((List.range len).map q).getD t 0 = q t := fun t ht => by simp [ht]
    refine ⟨some a, cap, (List.range len).map q, by simp, by simp; unfold maxLen at hm; omega, ?_⟩
    · by_cases h0 : len = 0
      · exact Or.inl (by simp [h0])
      · have ha : ∃ b off, a = ⟨b, off, none⟩ := by
          obtain ⟨b', off', spot⟩ := a
          have hspot : spot = none := by simpa [Addr.add] using World.cell?_spot (hq 0 (by omega))
          subst hspot
          exact ⟨b', off', rfl⟩
        obtain ⟨b, off, rfl⟩ := ha
        have hc : ∀ j, j < m → W.cell? ⟨b, off + j, none⟩ = some (.int .i64 (q j)) := fun j hj => by
          have c0 := (hq j hj)
          rw [Go.WideShapes.add_plain] at c0
          exact c0
        refine Or.inr ⟨b, off, rfl, cell_lt (hc 0 (by omega)), fun t ht => ?_⟩
        have ht' : t < len := by simpa using ht
        rw [hg t ht']
        exact hc t (by omega)
set_option maxRecDepth 100000 in
theorem openFs {H : Type} {enc : TypeId × Value → H} {W : World} {n : Nat} {v : Value} {x : DataW H × List MemPlace} (h : DataW.trod enc Try.prog W 0 (fun _ => true) true n 41 [v] = some x) :
    ∃ (a : Option Addr) (cap : Nat) (V : List Fd), v = .slice a V.length cap ∧ V.length ≤ 9223372036854775807 ∧ V.length ≤ cap ∧ (∀ i, FdLen (V.getD i fd0)) ∧ HoldFd W a V := by
  rcases Deep.open_slice Try.underlying41 h with ⟨hcs, _⟩ | ⟨a, len, cap, m, k, D, Pl, hcs, _, hl, hm, hmm, _, hx⟩
  · simp only [List.cons.injEq, and_true] at hcs
    subst hcs
    exact ⟨none, 0, [], rfl, by simp, by simp, fun i => by simp [FdLen, fd0], Or.inl rfl⟩
  · simp only [List.cons.injEq, and_true] at hcs
    subst hcs
    have hmc : m = cap := by simpa using hmm
    have hce : Try.prog.cellsOf 62 = 3 := by kernel_rfl
    have hc1 : Try.prog.cellsOf 9 = 1 := by kernel_rfl
    have hc2 : Try.prog.cellsOf 3 = 1 := by kernel_rfl
    have hc3 : Try.prog.cellsOf 45 = 1 := by kernel_rfl
    have each : ∀ i, i < m → ∃ q : Fd, W.cell? (a.add (i * 3)) = some (.string (bs q.1)) ∧ W.cell? (a.add (i * 3 + 1)) = some (.int .i64 q.2.1) ∧ (∃ an cn, W.cell? (a.add (i * 3 + 2)) = some (.slice an q.2.2.length cn) ∧ HoldZ W an q.2.2) ∧ FdLen q := fun i hi => by
      obtain ⟨cs', h1, h2⟩ := hx i hi
      rw [hce] at h1
      obtain ⟨_, hlen, hcell⟩ := World.cells?_some h1
      obtain ⟨xs, k', hk, hxy, _, hxl, hf⟩ := DataW.trod_struct Try.underlying62 h2
      match xs, hxl, cs', hlen with
      | [y0, y1, y2], _, [v0, v1, v2], _ =>
        have g0 := hf 0 _ rfl
        have g1 := hf 1 _ rfl
        have g2 := hf 2 _ rfl
        simp [hc1, hc2, hc3] at g0 g1 g2
        obtain ⟨s, e0, _, hs⟩ := DataW.trod_string Try.underlying9 g0
        obtain ⟨z, e1, _, _⟩ := DataW.trod_int Try.underlying3 g1
        obtain ⟨an, cn, nz, e2, b4, b5⟩ := openNz g2
        simp only [List.cons.injEq, and_true] at e0 e1
        subst e0 e1 e2
        have c0 := hcell 0 (by omega)
        have c1 := hcell 1 (by omega)
        have c2 := hcell 2 (by omega)
        rw [Deep.add_add] at c0 c1 c2
        have hz : s.size = s.data.toList.length := by rw [Array.length_toList]; rfl
        exact ⟨(s.data.toList, z, nz), by unfold bs; rw [← str_list]; simpa using c0, by simpa using c1, ⟨an, cn, by simpa using c2, b5⟩, by unfold maxLen at hs; show s.data.toList.length ≤ _; omega, b4⟩
    obtain ⟨q, hq⟩ := Deep.choose_lt each
    have hg : ∀ t, t < len → ((List.range len).map q).getD t fd0 = q t := fun t ht => by simp [ht]
    refine ⟨some a, cap, (List.range len).map q, by simp, by simp; unfold maxLen at hm; omega, by simp; omega, fun i => ?_, ?_⟩
    · by_cases hi : i < len
      · rw [hg i hi]; exact (hq i (by omega)).2.2.2
      · simp [hi, FdLen, fd0]
    by_cases h0 : len = 0
    · exact Or.inl (by simp [h0])
    · have ha : ∃ b off, a = ⟨b, off, none⟩ := by
        obtain ⟨b', off', spot⟩ := a
        have hspot : spot = none := by simpa [Addr.add] using World.cell?_spot (hq 0 (by omega)).1
        subst hspot
        exact ⟨b', off', rfl⟩
      obtain ⟨b, off, rfl⟩ := ha
      have hc : ∀ j u i, W.cell? ((⟨b, off, none⟩ : Addr).add (j * 3 + i)) = some u → W.cell? ⟨b, off + j * 3 + i, none⟩ = some u := fun j u i c0 => by
        rw [Go.WideShapes.add_plain] at c0
        rw [Nat.add_assoc]
        exact c0
      refine Or.inr ⟨b, off, rfl, cell_lt (hc 0 _ 0 (hq 0 (by omega)).1), fun t ht => ?_⟩
      have ht' : t < len := by simpa using ht
      rw [hg t ht']
      obtain ⟨q1, q2, ⟨an, cn, q4, q5⟩, _⟩ := hq t (by omega)
      exact ⟨hc t _ 0 q1, hc t _ 1 q2, an, cn, hc t _ 2 q4, q5⟩
set_option maxRecDepth 100000 in
theorem openFF {H : Type} {enc : TypeId × Value → H} {W : World} {n : Nat} {v : Value} {x : DataW H × List MemPlace} (h : DataW.trod enc Try.prog W 0 (fun _ => true) true n 22 [v] = some x) :
    ∃ (a : Option Addr) (cap : Nat) (L : List (List Fd)), v = .slice a L.length cap ∧ L.length ≤ 9223372036854775807 ∧ (∀ i, (L.getD i []).length ≤ 9223372036854775807 ∧ ∀ j, FdLen ((L.getD i []).getD j fd0)) ∧ HoldFF W a L := by
  rcases Deep.open_slice Try.underlying22 h with ⟨hcs, _⟩ | ⟨a, len, cap, m, k, D, Pl, hcs, _, hl, hm, hmm, _, hx⟩
  · simp only [List.cons.injEq, and_true] at hcs
    subst hcs
    exact ⟨none, 0, [], rfl, by simp, fun i => by simp [FdLen, fd0], Or.inl rfl⟩
  · simp only [List.cons.injEq, and_true] at hcs
    subst hcs
    have hmc : m = cap := by simpa using hmm
    have hce : Try.prog.cellsOf 41 = 1 := by kernel_rfl
    have each : ∀ i, i < m → ∃ q : List Fd, (∃ ra rc, W.cell? (a.add i) = some (.slice ra q.length rc) ∧ q.length ≤ rc ∧ HoldFd W ra q) ∧ q.length ≤ 9223372036854775807 ∧ ∀ j, FdLen (q.getD j fd0) := fun i hi => by
      obtain ⟨cs', h1, h2⟩ := hx i hi
      rw [hce] at h1
      obtain ⟨_, hlen, hcell⟩ := World.cells?_some h1
      match cs', hlen with
      | [v0], _ =>
        have c0 := hcell 0 (by omega)
        rw [Deep.add_add] at c0
        obtain ⟨ra, rc, q, e0, b1, b2, b3, b4⟩ := openFs h2
        subst e0
        exact ⟨q, ⟨ra, rc, by simpa using c0, b2, b4⟩, b1, b3⟩
    obtain ⟨q, hq⟩ := Deep.choose_lt each
    have hg : ∀ t, t < len → ((List.range len).map q).getD t [] = q t := fun t ht => by simp [ht]
    refine ⟨some a, cap, (List.range len).map q, by simp, by simp; unfold maxLen at hm; omega, fun i => ?_, ?_⟩
    · by_cases hi : i < len
      · rw [hg i hi]; exact (hq i (by omega)).2
      · simp [hi, FdLen, fd0]
    · by_cases h0 : len = 0
      · exact Or.inl (by simp [h0])
      · have ha : ∃ b off, a = ⟨b, off, none⟩ := by
          obtain ⟨b', off', spot⟩ := a
          obtain ⟨⟨ra, rc, c0, _⟩, _⟩ := hq 0 (by omega)
          have hspot : spot = none := by simpa [Addr.add] using World.cell?_spot c0
          subst hspot
          exact ⟨b', off', rfl⟩
        obtain ⟨b, off, rfl⟩ := ha
        have hc : ∀ j, j < m → ∃ ra rc, W.cell? ⟨b, off + j, none⟩ = some (.slice ra (q j).length rc) ∧ (q j).length ≤ rc ∧ HoldFd W ra (q j) := fun j hj => by
          obtain ⟨⟨ra, rc, c0, c1, c2⟩, _⟩ := hq j hj
          rw [Go.WideShapes.add_plain] at c0
          exact ⟨ra, rc, c0, c1, c2⟩
        refine Or.inr ⟨b, off, rfl, ?_, fun t ht => ?_⟩
        · obtain ⟨ra, rc, c0, _⟩ := hc 0 (by omega)
          exact cell_lt c0
        have ht' : t < len := by simpa using ht
        rw [hg t ht']
        exact hc t (by omega)
set_option maxRecDepth 100000 in
theorem openSk {H : Type} {enc : TypeId × Value → H} {W : World} {n : Nat} {v : Value} {x : DataW H × List MemPlace} (h : DataW.trod enc Try.prog W 0 (fun _ => true) true n 23 [v] = some x) :
    ∃ (a : Option Addr) (cap : Nat) (V : List (Tx × Bool)), v = .slice a V.length cap ∧ V.length ≤ 9223372036854775807 ∧ (∀ i, (V.getD i ([], false)).1.length ≤ 9223372036854775807) ∧ HoldSK W a V := by
  rcases Deep.open_slice Try.underlying23 h with ⟨hcs, _⟩ | ⟨a, len, cap, m, k, D, Pl, hcs, _, hl, hm, hmm, _, hx⟩
  · simp only [List.cons.injEq, and_true] at hcs
    subst hcs
    exact ⟨none, 0, [], rfl, by simp, fun i => by simp, Or.inl rfl⟩
  · simp only [List.cons.injEq, and_true] at hcs
    subst hcs
    have hmc : m = cap := by simpa using hmm
    have hce : Try.prog.cellsOf 44 = 2 := by kernel_rfl
    have hc1 : Try.prog.cellsOf 9 = 1 := by kernel_rfl
    have hc2 : Try.prog.cellsOf 4 = 1 := by kernel_rfl
    have each : ∀ i, i < m → ∃ q : Tx × Bool, W.cell? (a.add (i * 2)) = some (.string (bs q.1)) ∧ W.cell? (a.add (i * 2 + 1)) = some (.bool q.2) ∧ q.1.length ≤ 9223372036854775807 := fun i hi => by
      obtain ⟨cs', h1, h2⟩ := hx i hi
      rw [hce] at h1
      obtain ⟨_, hlen, hcell⟩ := World.cells?_some h1
      obtain ⟨xs, k', hk, hxy, _, hxl, hf⟩ := DataW.trod_struct Try.underlying44 h2
      match xs, hxl, cs', hlen with
      | [y0, y1], _, [v0, v1], _ =>
        have g0 := hf 0 _ rfl
        have g1 := hf 1 _ rfl
        simp [hc1, hc2] at g0 g1
        obtain ⟨s, e0, _, hs⟩ := DataW.trod_string Try.underlying9 g0
        obtain ⟨d, e1, _⟩ := DataW.trod_bool Try.underlying4 g1
        simp only [List.cons.injEq, and_true] at e0 e1
        subst e0 e1
        have c0 := hcell 0 (by omega)
        have c1 := hcell 1 (by omega)
        rw [Deep.add_add] at c0 c1
        have hz : s.size = s.data.toList.length := by rw [Array.length_toList]; rfl
        exact ⟨(s.data.toList, d), by unfold bs; rw [← str_list]; simpa using c0, by simpa using c1, by unfold maxLen at hs; show s.data.toList.length ≤ _; omega⟩
    obtain ⟨q, hq⟩ := Deep.choose_lt each
    have hg : ∀ t, t < len → ((List.range len).map q).getD t ([], false) = q t := fun t ht => by simp [ht]
    refine ⟨some a, cap, (List.range len).map q, by simp, by simp; unfold maxLen at hm; omega, fun i => ?_, ?_⟩
    · by_cases hi : i < len
      · rw [hg i hi]; exact (hq i (by omega)).2.2
      · simp [hi]
    by_cases h0 : len = 0
    · exact Or.inl (by simp [h0])
    · have ha : ∃ b off, a = ⟨b, off, none⟩ := by
        obtain ⟨b', off', spot⟩ := a
        have hspot : spot = none := by simpa [Addr.add] using World.cell?_spot (hq 0 (by omega)).1
        subst hspot
        exact ⟨b', off', rfl⟩
      obtain ⟨b, off, rfl⟩ := ha
      have hc : ∀ j u i, W.cell? ((⟨b, off, none⟩ : Addr).add (j * 2 + i)) = some u → W.cell? ⟨b, off + j * 2 + i, none⟩ = some u := fun j u i c0 => by
        rw [Go.WideShapes.add_plain] at c0
        rw [Nat.add_assoc]
        exact c0
      refine Or.inr ⟨b, off, rfl, cell_lt (hc 0 _ 0 (hq 0 (by omega)).1), fun t ht => ?_⟩
      have ht' : t < len := by simpa using ht
      rw [hg t ht']
      obtain ⟨q1, q2, _⟩ := hq t (by omega)
      exact ⟨hc t _ 0 q1, hc t _ 1 q2⟩
end Go.Proofs.Ytcnjmjcbhelkhaa
