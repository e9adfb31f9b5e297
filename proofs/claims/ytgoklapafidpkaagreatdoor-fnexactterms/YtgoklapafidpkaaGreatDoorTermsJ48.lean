import Derived.Test.YtgoklapafidpkaaGreatDoorTermsJ45
import Derived.Test.YtgoklapafidpkaaGreatDoorTermsJ47
import Derived.Test.YtgoklapafidpkaaGreatDoorTermsJ37
import Derived.Test.YtgoklapafidpkaaGreatDoorTermsJ42
import Derived.Test.YtgoklapafidpkaaGreatDoorTermsJ09
import Derived.Test.YtgoklapafidpkaaGreatDoorTermsJ46
import Derived.Test.YtgoklapafidpkaaGreatDoorTermsJ43
namespace Go.Proofs.YtgoklapafidpkaaGreatDoor
open Go Go.RowKit
set_option linter.unusedVariables false
set_option linter.unusedSimpArgs false
set_option maxRecDepth 100000

theorem StrF.at {W : World} {g : Nat} {ls : List (Nat × Nat)} (h : StrF W g ls) {j : Nat} (hj : j < ls.length) : ∃ cs, W.heap[g]? = some (Obj.cells cs 79) ∧ (∀ r, r < 9 → ∃ u, W.cell? ⟨g, j * 9 + r, none⟩ = some u) ∧ ∃ gt ct gn cn, W.cell? ⟨g, j * 9 + 5, none⟩ = some (.slice (some ⟨gt, 0, none⟩) (ls.getD j (0, 0)).1 ct) ∧ g < gt ∧ RowN W gt (ls.getD j (0, 0)).1 9 ∧ W.cell? ⟨g, j * 9 + 6, none⟩ = some (.slice (some ⟨gn, 0, none⟩) (ls.getD j (0, 0)).2 cn) ∧ g < gn ∧ RowN W gn ((ls.getD j (0, 0)).2 * 2) 156 := by
  obtain ⟨cs, h1, h2, h3⟩ := h
  obtain ⟨gt, ct, gn, cn, a1, a2, a3, a4, a5, a6⟩ := h3 j hj
  have hm : (j + 1) * 9 ≤ ls.length * 9 := Nat.mul_le_mul_right _ hj
  refine ⟨cs, h1, fun r hr => ⟨cs[j * 9 + r]'(by omega), ?_⟩, gt, ct, gn, cn, ?_, a2, a3, ?_, a5, a6⟩
  · rw [blkc h1]; exact Array.getElem?_eq_getElem (by omega)
  · rw [blkc h1]; exact a1
  · rw [blkc h1]; exact a4
set_option maxHeartbeats 4000000 in
theorem markSy_any (b n c : Nat) (k : Nat) (w : World) (hn : n ≤ 1048576) (hk0 : 1 ≤ k) (hk : k ≤ 13194139533312) (hr : RowN w b (n * 2) 156) :
    Calls Tryz.prog 87 #[.slice (some ⟨b, 0, none⟩) n c, .int .i64 (k : Int)] w fun e w' => e = .returned (.int .i64 ((k + n * 2 : Nat) : Int)) ∧ Fv w w' b := by
  have HR := hidd hr
  clear hr
  go_enter Tryz.func87, Tryz.ntmps87
  go_wp2
  go_loopw [1, 5] (fun kv iv wr => ∃ i K : Nat, i ≤ n ∧ K = k + i * 2 ∧ iv = .int .i64 (i : Int) ∧ kv = .int .i64 (K : Int) ∧ Fv w wr b) (fun _ iv _ => n - (intOf iv).toNat)
  case atStart => exact ⟨0, k, Nat.zero_le _, by omega, rfl, rfl, Fv.refl _ _⟩
  case round =>
    obtain ⟨i, K, hi, hK, rfl, rfl, hfz⟩ := hrel
    have HF := hidd hfz
    clear hfz
    have hKl : K ≤ 13194141630464 := by omega
    have hK1 : 1 ≤ K := by omega
    by_cases hlt : i < n
    · have hltz : (i : Int) < (n : Int) := by omega
      have HM := hidd (fun W => markText_big (K : Int) W (by omega) (by omega))
      have HM2 := hidd (fun W => markText_big ((K : Int) + 1) W (by omega) (by omega))
      generalize mkText (K : Int) = T at HM
      generalize mkText ((K : Int) + 1) = T2 at HM2
      have HKe := hidd hK
      clear hK
      obtain ⟨⟨u00, z0⟩, _⟩ := (HF.out.row _ _ _ HR.out).cell (j := i * 2) (by omega)
      go_wp2_with fail
      refine (HM.out _).mono ?_
      rintro e w2 ⟨rfl, hb2⟩
      have HF2 := hidd (HF.out.trans (Fv.of hb2 b))
      clear hb2 HM z0 HF
      have hr2 := HF2.out.row _ _ _ HR.out
      obtain ⟨⟨u0, q0⟩, f0⟩ := hr2.cell (j := i * 2) (by omega)
      obtain ⟨cur, hc, hcs⟩ := hr2
      have Hz := hidd (Fv.setY (j := i * 2) (g := b) (.string T) hc (Nat.le_refl b))
      clear hc hcs
      dsimp only
      go_upto_region 5 with fail
      obtain ⟨ws, hws⟩ : ∃ ws, w2.setCell ⟨b, i * 2, none⟩ (.string T) = ws := ⟨_, rfl⟩
      rw [hws] at Hz
      try rw [hws]
      clear hws q0 f0
      have HF3 := hidd (HF2.out.trans Hz.out)
      clear HF2 Hz
      obtain ⟨⟨u01, z1⟩, _⟩ := (HF3.out.row _ _ _ HR.out).cell (j := i * 2) (by omega)
      go_wp2_with fail
      refine (HM2.out _).mono ?_
      rintro e w4 ⟨rfl, hb4⟩
      have HF4 := hidd (HF3.out.trans (Fv.of hb4 b))
      clear hb4 HM2 z1 HF3
      have hr4 := HF4.out.row _ _ _ HR.out
      obtain ⟨⟨u1, q1⟩, f1⟩ := hr4.cell (j := i * 2 + 1) (by omega)
      obtain ⟨cur, hc, hcs⟩ := hr4
      have Hz := hidd (Fv.setY (j := i * 2 + 1) (g := b) (.string T2) hc (Nat.le_refl b))
      clear hc hcs
      dsimp only
      go_wp2_with fail
      go_roundw
      case rel => exact ⟨i + 1, K + 2, by omega, by have := HKe.out; omega, by go_num, by go_num, HF4.out.trans Hz.out⟩
      case measure => simp [intOf]; omega
    · have hltz : ¬ (i : Int) < (n : Int) := by omega
      have e : K = k + n * 2 := by omega
      subst e
      go_wp2
      go_ret
      exact ⟨rfl, HF.out⟩
set_option maxHeartbeats 16000000 in
theorem markFds_any (g c : Nat) (ls : List (Nat × Nat)) (w : World) (hn : ls.length ≤ 1048576) (hl : ∀ i, (ls.getD i (0, 0)).1 ≤ 1048576 ∧ (ls.getD i (0, 0)).2 ≤ 1048576) (h : StrF w g ls) :
    Calls Tryz.prog 43 #[.slice (some ⟨g, 0, none⟩) ls.length c, .int .i64 1] w fun e w' => ∃ k : Nat, e = .returned (.int .i64 (k : Int)) ∧ 1 ≤ k ∧ k ≤ 4398046511104 ∧ Fv w w' g := by
  have HS := hidd h
  have HL := hidd hl
  clear h hl
  go_enter Tryz.func43, Tryz.ntmps43
  go_wp2
  go_loopw [1, 5] (fun kv iv wr => ∃ i k : Nat, i ≤ ls.length ∧ iv = .int .i64 (i : Int) ∧ kv = .int .i64 (k : Int) ∧ 1 ≤ k ∧ k ≤ 1 + i * 3145735 ∧ Fv w wr g) (fun _ iv _ => ls.length - (intOf iv).toNat)
  case atStart => exact ⟨0, 1, Nat.zero_le _, rfl, rfl, by omega, by omega, Fv.refl _ _⟩
  case round =>
    obtain ⟨i, k, hi, rfl, rfl, hk0, hk, hfz⟩ := hrel
    have HF := hidd hfz
    clear hfz
    by_cases hlt : i < ls.length
    · have hltz : (i : Int) < (ls.length : Int) := by omega
      have hkb : k ≤ 3298542223361 := by
        have : i * 3145735 ≤ 1048575 * 3145735 := Nat.mul_le_mul_right _ (by omega)
        omega
      have HM := hidd (fun W => markText_big (k : Int) W (by omega) (by omega))
      have hle := HL.out i
      obtain ⟨pp, hpp⟩ : ∃ pp, ls.getD i (0, 0) = pp := ⟨_, rfl⟩
      have Hpp := hidd hpp
      rw [hpp] at hle
      clear hpp
      obtain ⟨n1, n2⟩ := pp
      dsimp only at hle
      obtain ⟨hle1, hle2⟩ := hle
      generalize mkText (k : Int) = T at HM
      obtain ⟨_, _, hex0, _⟩ := (HF.out.fld _ _ HS.out).at hlt
      obtain ⟨u00, z0⟩ := hex0 0 (by omega)
      clear hex0
      go_wp2_with fail
      refine (HM.out _).mono ?_
      rintro e w2 ⟨rfl, hb2⟩
      have HF2 := hidd (HF.out.trans (Fv.of hb2 g))
      clear hb2 HM z0 HF
      obtain ⟨cs, h1, hex, gt, ct, gn, cn, q5, hgt, hrt, q6, hgn, hrn⟩ := (HF2.out.fld _ _ HS.out).at hlt
      rw [Hpp.out] at q5 q6 hrt hrn
      dsimp only at q5 q6 hrt hrn
      obtain ⟨u0, q0⟩ := hex 0 (by omega)
      have f0 := blkf h1 (i * 9 + 0)
      obtain ⟨u1, q1⟩ := hex 1 (by omega)
      have f1 := blkf h1 (i * 9 + 1)
      obtain ⟨u2, q2⟩ := hex 2 (by omega)
      have f2 := blkf h1 (i * 9 + 2)
      obtain ⟨u3, q3⟩ := hex 3 (by omega)
      have f3 := blkf h1 (i * 9 + 3)
      obtain ⟨u4, q4⟩ := hex 4 (by omega)
      have f4 := blkf h1 (i * 9 + 4)
      simp only [Nat.add_zero] at q0 f0
      clear hex
      have HFs : Hid (∀ W, Fv w2 W g → Fv w W g) := fun W hW => HF2.out.trans hW
      have HH1 := hidd h1
      clear h1
      dsimp only
      have Hst : Hid (Fv w2 (((((w2.setCell ⟨g, i * 9, none⟩ (.string T)).setCell ⟨g, i * 9 + 1, none⟩ (.int .i64 ((k : Int) + 1))).setCell ⟨g, i * 9 + 2, none⟩ (.bool (((k : Int) + 1 + 1) % 3 == 0))).setCell ⟨g, i * 9 + 2 + 1, none⟩ (.bool (((k : Int) + 1 + 1 + 1) % 3 == 0))).setCell ⟨g, i * 9 + 2 + 2, none⟩ (.bool (((k : Int) + 1 + 1 + 1 + 1) % 3 == 0))) g) := by
        have s0 := Fv.setF (i := i) (r := 0) (g := g) (.string T) HH1.out (by omega) (by omega) (by omega) (Nat.le_refl g)
        obtain ⟨c0, b0, _⟩ := s0.keep g _ _ HH1.out
        have s1 := Fv.setF (i := i) (r := 1) (g := g) (.int .i64 ((k : Int) + 1)) b0 (by omega) (by omega) (by omega) (Nat.le_refl g)
        obtain ⟨c1, b1, _⟩ := s1.keep g _ _ b0
        have s2 := Fv.setF (i := i) (r := 2) (g := g) (.bool (((k : Int) + 1 + 1) % 3 == 0)) b1 (by omega) (by omega) (by omega) (Nat.le_refl g)
        obtain ⟨c2, b2, _⟩ := s2.keep g _ _ b1
        have s3 := Fv.setF (i := i) (r := 3) (g := g) (.bool (((k : Int) + 1 + 1 + 1) % 3 == 0)) b2 (by omega) (by omega) (by omega) (Nat.le_refl g)
        obtain ⟨c3, b3, _⟩ := s3.keep g _ _ b2
        have s4 := Fv.setF (i := i) (r := 4) (g := g) (.bool (((k : Int) + 1 + 1 + 1 + 1) % 3 == 0)) b3 (by omega) (by omega) (by omega) (Nat.le_refl g)
        exact (((s0.trans s1).trans s2).trans s3).trans s4
      go_upto_region 14 with fail
      obtain ⟨ws, hws⟩ : ∃ ws, (((((w2.setCell ⟨g, i * 9, none⟩ (.string T)).setCell ⟨g, i * 9 + 1, none⟩ (.int .i64 ((k : Int) + 1))).setCell ⟨g, i * 9 + 2, none⟩ (.bool (((k : Int) + 1 + 1) % 3 == 0))).setCell ⟨g, i * 9 + 2 + 1, none⟩ (.bool (((k : Int) + 1 + 1 + 1) % 3 == 0))).setCell ⟨g, i * 9 + 2 + 2, none⟩ (.bool (((k : Int) + 1 + 1 + 1 + 1) % 3 == 0))) = ws := ⟨_, rfl⟩
      rw [hws] at Hst
      try rw [hws]
      clear hws q0 q1 q2 q3 q4 q5 q6 f0 f1 f2 f3 f4 hrt hrn hgt hgn HH1 HFs
      have HF3 := hidd (HF2.out.trans Hst.out)
      clear HF2 Hst
      obtain ⟨cs3, _, _, gt3, ct3, gn3, cn3, a5, hgt3, hrt3, _, _, _⟩ := (HF3.out.fld _ _ HS.out).at hlt
      rw [Hpp.out] at a5 hrt3
      dsimp only at a5 hrt3
      have r5 : ws.cell? ⟨g, i * 9 + 2 + 3, none⟩ = some (.slice (some ⟨gt3, 0, none⟩) n1 ct3) := a5
      have HM1 := hidd (markTx_any gt3 n1 ct3 (k + 5) ws hle1 (by omega) (by omega) hrt3)
      rw [show ((k + 5 : Nat) : Int) = (k : Int) + 1 + 1 + 1 + 1 + 1 from by omega] at HM1
      clear a5 hrt3
      go_wp2_with fail
      refine HM1.out.mono ?_
      rintro e w3 ⟨rfl, hf3⟩
      have HF4 := hidd (HF3.out.trans (hf3.mono (by omega)))
      clear hf3 HM1 r5 HF3
      obtain ⟨cs4, _, _, gt4, ct4, gn4, cn4, _, _, _, a6, hgn4, hrn4⟩ := (HF4.out.fld _ _ HS.out).at hlt
      rw [Hpp.out] at a6 hrn4
      dsimp only at a6 hrn4
      have r6 : w3.cell? ⟨g, i * 9 + 2 + 4, none⟩ = some (.slice (some ⟨gn4, 0, none⟩) n2 cn4) := a6
      have HM2 := hidd (markSy_any gn4 n2 cn4 (k + 5 + n1) w3 hle2 (by omega) (by omega) hrn4)
      clear a6 hrn4
      dsimp only
      go_wp2_with fail
      refine HM2.out.mono ?_
      rintro e w5 ⟨rfl, hf5⟩
      have HF5 := hidd (HF4.out.trans (hf5.mono (by omega)))
      clear hf5 HM2 r6 HF4
      dsimp only
      obtain ⟨cs5, h5, hex5, _⟩ := (HF5.out.fld _ _ HS.out).at hlt
      obtain ⟨u7, a7⟩ := hex5 7 (by omega)
      obtain ⟨u8, a8⟩ := hex5 8 (by omega)
      have b7 : w5.cell? ⟨g, i * 9 + 2 + 5, none⟩ = some u7 := a7
      have b8 : w5.cell? ⟨g, i * 9 + 2 + 6, none⟩ = some u8 := a8
      have z7 : w5.frozen? ⟨g, i * 9 + 2 + 5, none⟩ = false := blkf h5 _
      have z8 : w5.frozen? ⟨g, i * 9 + 2 + 6, none⟩ = false := blkf h5 _
      obtain ⟨K, hK⟩ : ∃ K : Nat, K = k + 5 + n1 + n2 * 2 := ⟨_, rfl⟩
      rw [← hK]
      have HK := hidd hK
      have hKb : K ≤ 13194139533312 := by omega
      clear hK a7 a8 hex5
      have Hst : Hid (Fv w5 ((w5.setCell ⟨g, i * 9 + 2 + 5, none⟩ (.int .i64 (K : Int))).setCell ⟨g, i * 9 + 2 + 6, none⟩ (.int .i64 ((K : Int) + 1))) g) := by
        have s7 := Fv.setF (i := i) (r := 7) (g := g) (.int .i64 (K : Int)) h5 (by omega) (by omega) (by omega) (Nat.le_refl g)
        obtain ⟨c7, e7, _⟩ := s7.keep g _ _ h5
        have s8 := Fv.setF (i := i) (r := 8) (g := g) (.int .i64 ((K : Int) + 1)) e7 (by omega) (by omega) (by omega) (Nat.le_refl g)
        exact s7.trans s8
      clear h5
      go_wp2_with fail
      go_roundw
      case rel => exact ⟨i + 1, K + 2, by omega, by go_num, by go_num, by omega, by have := HK.out; omega, HF5.out.trans Hst.out⟩
      case measure => simp [intOf]; omega
    · have hltz : ¬ (i : Int) < (ls.length : Int) := by omega
      have hkb : k ≤ 4398046511104 := by
        have : i * 3145735 ≤ 1048576 * 3145735 := Nat.mul_le_mul_right _ (by omega)
        omega
      go_wp2
      go_ret
      exact ⟨k, rfl, hk0, hkb, HF.out⟩
set_option maxHeartbeats 2000000 in
theorem markSchema_any (g cap : Nat) (ls : List (Nat × Nat)) (w : World) (hn : ls.length ≤ 1048576) (hl : ∀ i, (ls.getD i (0, 0)).1 ≤ 1048576 ∧ (ls.getD i (0, 0)).2 ≤ 1048576) (h : StrF w g ls) :
    Calls Tryz.prog 17 #[.agg #[.slice (some ⟨g, 0, none⟩) ls.length cap], .int .i64 1] w fun e w' => ∃ k : Nat, e = .returned (.int .i64 (k : Int)) ∧ 1 ≤ k ∧ k ≤ 4398046511104 ∧ Fv (w.alloc (.cells #[.slice (some ⟨g, 0, none⟩) ls.length cap] 33)) w' g := by
  have HM := hidd (markFds_any g cap ls (w.alloc (.cells #[.slice (some ⟨g, 0, none⟩) ls.length cap] 33)) hn hl ((Fv.of ((Below.refl _ _).alloc (Nat.le_refl _) _) g).fld _ _ h))
  clear h hl
  go_enter Tryz.func17, Tryz.ntmps17
  go_wp2_with fail
  refine HM.out.mono ?_
  rintro e w2 ⟨k, rfl, hk0, hk1, hf⟩
  have HF := hidd hf
  clear hf
  dsimp only
  go_wp2_with fail
  go_ret
  exact ⟨k, rfl, hk0, hk1, HF.out⟩
end Go.Proofs.YtgoklapafidpkaaGreatDoor

namespace Go.Proofs.YtgoklapafidpkaaGreatDoor
open Go Go.RowKit
set_option linter.unusedVariables false
set_option maxRecDepth 100000

theorem szFdGo_le : ∀ (l : List Fd) (left : Int), 0 ≤ left → left ≤ 1048576 → szFdGo left l ≤ left
  | [], left, h0, h1 => by simp [szFdGo]
  | f :: t, left, h0, h1 => by
    simp only [szFdGo]
    split
    · omega
    · rename_i hn
      have h2 := (szFd_ok (f := f) h0 h1 (by omega)).1
      have h3 := szFdGo_le t (szFd left f) (by omega) (by omega)
      omega
theorem szFds_le (l : List Fd) : szFds 1048576 l ≤ 1048576 := by
  unfold szFds
  split
  · omega
  · have := szFdGo_le l (1048576 - (l.length : Int)) (by omega) (by omega)
    omega
end Go.Proofs.YtgoklapafidpkaaGreatDoor
