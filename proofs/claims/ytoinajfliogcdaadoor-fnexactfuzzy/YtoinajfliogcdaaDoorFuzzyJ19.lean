import Derived.Test.YtoinajfliogcdaaDoorFuzzyJ18
namespace Go.Proofs.YtoinajfliogcdaaDoor
open Go Go.RowKit
set_option linter.unusedVariables false
set_option linter.unusedSimpArgs false
set_option maxRecDepth 100000

/-! laws.heldDfa; laws.markDfa. -/
theorem mkAr_at : ∀ (n k i : Nat), i < n → (mkAr k n).getD i (0, 0) = (((k + 2 * i : Nat) : Int), ((k + 2 * i + 1 : Nat) : Int))
  | 0, k, i, h => absurd h (by omega)
  | n + 1, k, 0, h => by simp [mkAr]
  | n + 1, k, i + 1, h => by
    have := mkAr_at n (k + 2) i (by omega)
    rw [show k + 2 * (i + 1) = k + 2 + 2 * i by omega, ← this]
    simp [mkAr]
set_option maxHeartbeats 4000000 in
theorem heldArcs_any (a : Option Addr) (c n k N : Nat) (w : World) (hN : N = k + 2 * n) (hn : n ≤ 1048576) (hk : k ≤ 1099511627776) (h : HDA w a (mkAr k n)) :
    Calls Tryd.prog 109 #[.slice a n c, .int .i64 (k : Int)] w fun e w' => e = .returned (.int .i64 (N : Int)) ∧ Below w.heap.size w w' := by
  have H := hidd h
  have HNN := hidd hN
  clear h hN
  go_enter Tryd.func109, Tryd.ntmps109
  go_wp2_with fail
  go_loopw [5, 1] (fun iv kv wr => ∃ (i K : Nat), i ≤ n ∧ K = k + 2 * i ∧ iv = .int .i64 (i : Int) ∧ kv = .int .i64 (K : Int) ∧ Below w.heap.size w wr) (fun iv _ _ => n - (intOf iv).toNat)
  case atStart => exact ⟨0, k, Nat.zero_le _, by omega, rfl, rfl, Below.refl _ _⟩
  case round =>
    obtain ⟨i, K, hi, hK, rfl, rfl, hb⟩ := hrel
    have HB := hidd hb
    have HK := hidd hK
    clear hb
    by_cases hlt : i < n
    · have hltz : (i : Int) < (n : Int) := by omega
      obtain ⟨b, off, rfl, hb1, hc⟩ := (H.out.below HB.out).resolve_left (fun e => by have := congrArg List.length e; rw [mkAr_len] at this; simp at this; omega)
      have hc2 := hc i (by rw [mkAr_len]; exact hlt)
      rw [mkAr_at n k i hlt, ← hK] at hc2
      obtain ⟨x0, x1⟩ := hc2
      obtain ⟨K1, hK1⟩ : ∃ K1 : Nat, K1 = K + 1 := ⟨_, rfl⟩
      obtain ⟨K2, hK2⟩ : ∃ K2 : Nat, K2 = K + 2 := ⟨_, rfl⟩
      dsimp only at x0 x1
      rw [← hK1] at x1
      have hkk : (K : Int) + 1 = (K1 : Int) := by omega
      have hkk2 : (K1 : Int) + 1 = (K2 : Int) := by omega
      have hKb : K ≤ 1099515822080 := by omega
      have hKb1 : K1 ≤ 1099515822080 := by omega
      have HKr : Hid (K2 = k + 2 * (i + 1)) := by show _ = _; omega
      have n1 : ((K : Int) != (K : Int)) = false := by simp
      have n2 : ((K1 : Int) != (K1 : Int)) = false := by simp
      clear hc hK hK1 hK2
      go_wp2_with fail
      go_roundw
      case rel => exact ⟨i + 1, K2, by omega, HKr.out, by go_num, rfl, HB.out⟩
      case measure => simp [intOf]; omega
    · have hltz : ¬ (i : Int) < (n : Int) := by omega
      obtain rfl : i = n := by omega
      clear hK
      go_wp2_with fail
      go_ret
      exact ⟨by rw [HNN.out, ← HK.out]; rfl, HB.out⟩
theorem mk_split {l : List MSt} {k i : Nat} {A : List MSt} {K : Nat} {s : MSt} {B : List MSt} (h : A ++ mkS K (s :: B) = mkS k l) (hA : A.length = i) : ((mkS k l).map Prod.snd).getD i ps0 = (((K : Int) % 3 == 0), mkAr (K + 1) s.2.2.1.length, ((K + 1 + 2 * s.2.2.1.length : Nat) : Int)) := by
  rw [← h, List.getD_eq_getElem?_getD, List.getElem?_map, List.getElem?_append_right (by omega), hA, Nat.sub_self]
  rfl
set_option maxHeartbeats 4000000 in
theorem heldStates_any (a : Option Addr) (c k N : Nat) (l : List MSt) (w : World) (hN : N = mkK k l) (hn : l.length ≤ 256) (ha : ∀ s ∈ l, s.2.2.1.length ≤ 30) (hk : k ≤ 1000000) (h : HDS w a ((mkS k l).map Prod.snd)) :
    Calls Tryd.prog 76 #[.slice a l.length c, .int .i64 (k : Int)] w fun e w' => e = .returned (.int .i64 (N : Int)) ∧ Below w.heap.size w w' := by
  have H := hidd h
  have HNN := hidd hN
  have HA := hidd ha
  clear h hN ha
  go_enter Tryd.func76, Tryd.ntmps76
  go_wp2_with fail
  go_loopw [5, 1] (fun iv kv wr => ∃ (A B : List MSt) (i K : Nat), A.length = i ∧ i + B.length = l.length ∧ (∀ s ∈ B, s.2.2.1.length ≤ 30) ∧ K + 62 * B.length ≤ k + 62 * l.length ∧ iv = .int .i64 (i : Int) ∧ kv = .int .i64 (K : Int) ∧ A ++ mkS K B = mkS k l ∧ mkK K B = mkK k l ∧ Below w.heap.size w wr) (fun iv _ _ => l.length - (intOf iv).toNat)
  case atStart => exact ⟨[], l, 0, k, rfl, by simp, HA.out, by omega, rfl, rfl, rfl, rfl, Below.refl _ _⟩
  case round =>
    clear HA
    obtain ⟨A, B, i, K, hAi, hAB, hsm, hKb, rfl, rfl, hmk, hmK, hbel⟩ := hrel
    have HMk := hidd hmk
    have HMK := hidd hmK
    have HBe := hidd hbel
    have HAi := hidd hAi
    have HSm := hidd hsm
    clear hmk hmK hbel hAi hsm
    cases B with
    | nil =>
      obtain rfl : i = l.length := by simpa using hAB
      have hltz : ¬ (l.length : Int) < (l.length : Int) := by omega
      go_wp2_with fail
      go_ret
      have e2 : K = N := by rw [HNN.out]; exact HMK.out
      exact ⟨by rw [e2]; rfl, HBe.out⟩
    | cons s B =>
      obtain ⟨va, f, rs, z⟩ := s
      rw [List.length_cons] at hAB hKb
      have hlt : i < l.length := by omega
      have hltz : (i : Int) < (l.length : Int) := by omega
      have hrs : rs.length ≤ 30 := HSm.out (va, f, rs, z) (List.mem_cons_self ..)
      obtain ⟨b, off, rfl, hb1, hc⟩ := (H.out.below HBe.out).resolve_left (fun e => by have := congrArg List.length e; rw [List.length_map, mkS_len, List.length_nil] at this; omega)
      have hc2 := hc i (by rw [List.length_map, mkS_len]; exact hlt)
      rw [mk_split HMk.out HAi.out] at hc2
      obtain ⟨x0, ai, ci, x1, hx, x2⟩ := hc2
      dsimp only at x0 x1 hx x2
      rw [mkAr_len] at x1
      obtain ⟨m, hm⟩ : ∃ m, rs.length = m := ⟨_, rfl⟩
      rw [hm] at x1 hx x2 hrs
      obtain ⟨K1, hK1⟩ : ∃ K1 : Nat, K1 = K + 1 := ⟨_, rfl⟩
      obtain ⟨N1, hN1⟩ : ∃ N1 : Nat, N1 = K1 + 2 * m := ⟨_, rfl⟩
      obtain ⟨N2, hN2⟩ : ∃ N2 : Nat, N2 = N1 + 1 := ⟨_, rfl⟩
      rw [← hK1] at hx x2
      rw [← hN1] at x2
      have hkk : (K : Int) + 1 = (K1 : Int) := by omega
      have hnn : (N1 : Int) + 1 = (N2 : Int) := by omega
      have hK1b : K1 ≤ 1099511627776 := by omega
      have hKb2 : K ≤ 1099511627776 := by omega
      have hN1b : N1 ≤ 1099511627776 := by omega
      have hN1p : ¬ (N1 : Int) < 0 := by omega
      have dN1 : decide ((N1 : Int) < 0) = false := decide_eq_false hN1p
      have n1 : ((N1 : Int) != (N1 : Int)) = false := by simp
      obtain ⟨Bv, hBv⟩ : ∃ Bv, ((K : Int) % 3 == 0) = Bv := ⟨_, rfl⟩
      rw [hBv] at x0
      have hbb : (Bv != Bv) = false := by cases Bv <;> rfl
      have HHd := hidd (heldArcs_any ai ci m K1 N1 wr hN1 (by omega) hK1b hx)
      have HR : Hid ((A ++ [(va, Bv, mkAr K1 m, (N1 : Int))]) ++ mkS N2 B = mkS k l ∧ mkK N2 B = mkK k l) := by
        have r3 : N2 = K + 2 + 2 * rs.length := by omega
        have r2 : N1 = K + 1 + 2 * rs.length := by omega
        refine ⟨?_, ?_⟩
        · rw [← HMk.out, List.append_assoc, ← hBv, hK1, r2, r3, ← hm]; rfl
        · rw [← HMK.out, r3]; rfl
      have hb62 : N2 + 62 * B.length ≤ k + 62 * l.length := by omega
      have y2 : Hid (b < wr.heap.size ∧ wr.cell? ⟨b, off + i * 3 + 2, none⟩ = some (.int .i64 (N1 : Int))) := ⟨hb1, x2⟩
      clear hc hx hK1 hN1 hN2 hm x2 HMk HMK
      go_wp2_with fail
      refine HHd.out.mono ?_
      rintro e W2 ⟨rfl, hb2⟩
      have x2' : W2.cell? ⟨b, off + i * 3 + 2, none⟩ = some (.int .i64 (N1 : Int)) := (hb2.cell (p := ⟨b, off + i * 3 + 2, none⟩) y2.out.1).trans y2.out.2
      have HB2 := hidd (HBe.out.trans (hb2.mono HBe.out.size))
      clear hb2 x0 x1 HHd
      go_wp2_with fail
      go_roundw
      case rel => exact ⟨A ++ [(va, Bv, mkAr K1 m, (N1 : Int))], B, i + 1, N2, by rw [List.length_append, HAi.out]; rfl, by omega, fun x hx => HSm.out x (List.mem_cons_of_mem _ hx), hb62, by go_num, rfl, HR.out.1, HR.out.2, HB2.out⟩
      case measure => simp [intOf]; omega
theorem heldDfa_any (a : Option Addr) (c N : Nat) (l : List MSt) (w : World) (hN : N = mkK 1 l) (hn : l.length ≤ 256) (ha : ∀ s ∈ l, s.2.2.1.length ≤ 30) (h : HDS w a ((mkS 1 l).map Prod.snd)) :
    Calls Tryd.prog 28 #[.agg #[.slice a l.length c], .int .i64 1] w fun e w' => e = .returned (.int .i64 (N : Int)) ∧ Below w.heap.size w w' := by
  have hb0 : Below w.heap.size w (w.alloc (.cells #[.slice a l.length c] 27)) := (Below.refl _ _).alloc (Nat.le_refl _) _
  have HC := hidd (heldStates_any a c 1 N l _ hN hn ha (by omega) (h.below hb0))
  have HB := hidd hb0
  have hNp : ¬ (N : Int) < 0 := by omega
  have dN : decide ((N : Int) < 0) = false := decide_eq_false hNp
  clear hN ha h hb0
  go_enter Tryd.func28, Tryd.ntmps28
  go_wp2_with fail
  refine HC.out.mono ?_
  rintro e w2 ⟨rfl, hb2⟩
  have HB2 := hidd (HB.out.trans (hb2.mono HB.out.size))
  clear hb2
  go_wp2_with fail
  go_ret
  exact ⟨rfl, HB2.out⟩
theorem markDfa_any (base N : Nat) (v : Value) (l : List MSt) (w : World) (hN : N = mkK 1 l) (hn : l.length ≤ 256) (ha : ∀ s ∈ l, s.2.2.1.length ≤ 30) (hbase : base ≤ w.heap.size) (h : DfaM w base v l) :
    Calls Tryd.prog 27 #[.agg #[v], .int .i64 1] w fun e w' => e = .returned (.int .i64 (N : Int)) ∧ DfaM w' base v (mkS 1 l) ∧ Below base w w' ∧ OthD w w' := by
  obtain ⟨ad, cap, rfl⟩ := own_slk h.row
  have hb0 : Below w.heap.size w (w.alloc (.cells #[.slice ad l.length cap] 27)) := (Below.refl _ _).alloc (Nat.le_refl _) _
  have HC := hidd (markStates_any base _ l 1 N _ hN hn ha (by omega) (Nat.le_trans hbase hb0.size) (h.below hb0))
  have HB := hidd (hb0.mono hbase)
  have HO0 : Hid (OthD w (w.alloc (.cells #[.slice ad l.length cap] 27))) := fun b cs t _ _ hh => blko hh hb0
  clear hN ha h hb0
  go_enter Tryd.func27, Tryd.ntmps27
  go_wp2_with fail
  refine HC.out.mono ?_
  rintro e w2 ⟨rfl, h2, hb2, ho2⟩
  have HB2 := hidd (HB.out.trans hb2)
  have HO2 := hidd (HO0.out.trans ho2)
  have H2 := hidd h2
  clear hb2 h2 ho2
  go_wp2_with fail
  go_ret
  exact ⟨rfl, H2.out, HB2.out, HO2.out⟩
end Go.Proofs.YtoinajfliogcdaaDoor
