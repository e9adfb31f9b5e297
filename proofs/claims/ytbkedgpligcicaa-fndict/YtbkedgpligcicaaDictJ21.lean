import Derived.Test.YtbkedgpligcicaaDictJ20
import Derived.Test.YtbkedgpligcicaaDictJ19
namespace Go.Proofs.Ytbkedgpligcicaa
open Go Go.RowKit
set_option linter.unusedVariables false
set_option maxRecDepth 100000

/-- Whether the last four bytes are the sum of the rest. -/
def SumOK (bs : List UInt8) : Prop := 4 ≤ bs.length ∧ four (sumL (bs.take (bs.length - 4))) = bs.drop (bs.length - 4)
theorem byte_at {w : World} {b off : Nat} {bs : List UInt8} (h : BytesAt w b off bs) {k : Nat} (hk : k < bs.length) : w.cell? ⟨b, off + k, none⟩ = some (.int .u8 ((bs.getD k 0).toNat : Int)) := by
  have := h k hk
  simpa using this
theorem drop_atR {bs : List UInt8} {k : Nat} (h : k < bs.length) : bs.drop k = bs.getD k 0 :: bs.drop (k + 1) := by
  rw [List.drop_eq_getElem_cons h, List.getD_eq_getElem?_getD, List.getElem?_eq_getElem h]; rfl
theorem bytes_take {w : World} {b off : Nat} {bs : List UInt8} (h : BytesAt w b off bs) (k : Nat) : BytesAt w b off (bs.take k) := fun t ht => by
  rw [List.length_take] at ht
  have := h t (by omega)
  rw [this]
  simp [List.getD_eq_getElem?_getD, show t < k by omega]
theorem arr4_run (a : Option Addr) (c : Nat) (W : World) : (Instr.arrayAt 86 (.slice a 4 c)).run Try.prog W = .ok (.pointer a) W := by
  simp [Instr.arrayAt, run_underlying Try.underlying86]
theorem ofNat_eq (x : Nat) (y : UInt8) (h : x < 256) : UInt8.ofNat x = y ↔ x = y.toNat := by
  constructor
  · rintro rfl
    rw [UInt8.toNat_ofNat']; omega
  · rintro rfl
    exact UInt8.ofNat_toNat
theorem sumOK_iff {bs : List UInt8} {n : Nat} (hn : bs.length = n + 4) : SumOK bs ↔ (sumL (bs.take n) / 16777216 = (bs.getD n 0).toNat ∧ sumL (bs.take n) / 65536 % 256 = (bs.getD (n + 1) 0).toNat ∧ sumL (bs.take n) / 256 % 256 = (bs.getD (n + 2) 0).toNat ∧ sumL (bs.take n) % 256 = (bs.getD (n + 3) 0).toNat) := by
  have hlim := sumL_lt (bs.take n)
  have hd : bs.drop n = [bs.getD n 0, bs.getD (n + 1) 0, bs.getD (n + 2) 0, bs.getD (n + 3) 0] := by
    rw [drop_atR (by omega), drop_atR (show n + 1 < bs.length by omega), drop_atR (show n + 1 + 1 < bs.length by omega), drop_atR (show n + 1 + 1 + 1 < bs.length by omega), List.drop_eq_nil_of_le (by omega)]
  unfold SumOK
  rw [show bs.length - 4 = n by omega, hd]
  unfold four
  generalize sumL (bs.take n) = s at *
  simp only [List.cons.injEq, and_true]
  rw [ofNat_eq _ _ (by omega), ofNat_eq _ _ (by omega), ofNat_eq _ _ (by omega), ofNat_eq _ _ (by omega)]
  exact ⟨fun h => h.2, fun h => ⟨by omega, h⟩⟩
set_option maxHeartbeats 4000000 in
theorem withoutSum_any (b off cap : Nat) (bs : List UInt8) (w : World) (hl : bs.length ≤ 1048576) (hcap : bs.length ≤ cap) (hc : BytesAt w b off bs) (hb : b < w.heap.size) :
    Calls Try.prog 81 #[.slice (some ⟨b, off, none⟩) bs.length cap] w fun e w' => Below w.heap.size w w' ∧ ((SumOK bs ∧ e = .returned (.tuple #[.slice (some ⟨b, off, none⟩) (bs.length - 4) cap, .bool true])) ∨ (¬ SumOK bs ∧ e = .returned (.tuple #[.slice none 0 0, .bool false]))) := by
  have Hc := hidd hc
  clear hc
  go_enter Try.func81, Try.ntmps81
  go_wp2_with fail
  by_cases h4 : bs.length < 4
  · have h4z : (bs.length : Int) - 4 < 0 := by omega
    have HN : Hid (¬ SumOK bs) := fun h => by have := h.1; omega
    go_quiet (fail)
    go_wp2_with fail
    go_ret2
    exact ⟨below_drewN (Below.refl _ _) nq, .inr ⟨HN.out, rfl⟩⟩
  · have h4z : ¬ ((bs.length : Int) - 4 < 0) := by omega
    have HSu := hidd (fun (W : World) (hW : Below w.heap.size w W) => sumBytes_any b off cap (bs.take (bs.length - 4)) W (bytes_take (Hc.out.below hW) _) (Nat.lt_of_lt_of_le hb hW.size))
    have hlt4 : (bs.take (bs.length - 4)).length = bs.length - 4 := by rw [List.length_take]; omega
    rw [hlt4] at HSu
    have hlim := sumL_lt (bs.take (bs.length - 4))
    obtain ⟨n, hn⟩ : ∃ n, bs.length = n + 4 := ⟨bs.length - 4, by omega⟩
    have c0 := byte_at Hc.out (k := n) (by omega)
    have c1 := byte_at Hc.out (k := n + 1) (by omega)
    rw [← Nat.add_assoc] at c1
    have c2 := byte_at Hc.out (k := n + 2) (by omega)
    rw [← Nat.add_assoc] at c2
    have c3 := byte_at Hc.out (k := n + 3) (by omega)
    rw [← Nat.add_assoc] at c3
    have HEq := hidd (sumOK_iff hn)
    rw [show bs.length - 4 = n by omega] at HSu hlim
    have HnL := hidd hn
    clear hlt4 h4 h4z
    rw [hn] at hcap hl ⊢
    clear hn
    generalize sumL (bs.take n) = sm at *
    generalize bs.getD n 0 = e0 at *
    generalize bs.getD (n + 1) 0 = e1 at *
    generalize bs.getD (n + 2) 0 = e2 at *
    generalize bs.getD (n + 3) 0 = e3 at *
    have hnz : ((n + 4 : Nat) : Int) - 4 = (n : Int) := by omega
    have hnz2 : (n : Int) + 4 - 4 = (n : Int) := by omega
    have hn0 : ¬ ((n : Int) < 0) := by omega
    rw [hnz]
    have xa := fun W => arr4_run (some ⟨b, off + n, none⟩) (cap - n) W
    have xe := fun W => eq4_run W ((sm : Int) / 16777216) ((sm : Int) / 65536 % 256) ((sm : Int) / 256 % 256) ((sm : Int) % 256) (e0.toNat : Int) (e1.toNat : Int) (e2.toNat : Int) (e3.toNat : Int)
    have HT : Hid ((!((sm : Int) / 16777216 == (e0.toNat : Int) && ((sm : Int) / 65536 % 256 == (e1.toNat : Int) && ((sm : Int) / 256 % 256 == (e2.toNat : Int) && (sm : Int) % 256 == (e3.toNat : Int))))) = true ↔ ¬ SumOK bs) := by
      rw [HEq.out]
      simp only [Bool.not_eq_true', ← Bool.not_eq_true, Bool.and_eq_true, beq_iff_eq]
      refine not_congr ⟨fun h => ⟨by omega, by omega, by omega, by omega⟩, fun h => ⟨by omega, by omega, by omega, by omega⟩⟩
    go_cut [21] (fun cv wy => ∃ T : Bool, cv = .bool T ∧ (T = true ↔ ¬ SumOK bs) ∧ Below w.heap.size w wy)
    case first =>
      go_region_with (go_at_call 50; refine (HSu.out _ (by first | exact below_drewN (Below.refl _ _) 1 | exact Below.refl _ _)).mono ?_; rintro e w3 ⟨rfl, hb3⟩; have HB3 := hidd hb3; have d0 := (hb3.cell (p := ⟨b, off + n, none⟩) (by first | exact hb | simpa using hb)).trans c0; have d1 := (hb3.cell (p := ⟨b, off + n + 1, none⟩) (by first | exact hb | simpa using hb)).trans c1; have d2 := (hb3.cell (p := ⟨b, off + n + 2, none⟩) (by first | exact hb | simpa using hb)).trans c2; have d3 := (hb3.cell (p := ⟨b, off + n + 3, none⟩) (by first | exact hb | simpa using hb)).trans c3; clear hb3)
      all_goals
        go_wp2_with fail
        go_meet
        exact ⟨_, rfl, by have h := HT.out; simp only [Bool.not_and] at h; exact h, by first | exact HB3.out | exact (below_drewN (Below.refl _ _) 1).trans HB3.out | exact below_drewN HB3.out 1⟩
    case rest =>
      obtain ⟨T, rfl, hT, hbw⟩ := hcut
      have HB := hidd hbw
      have HTT := hidd hT
      clear hbw hT xe xa c0 c1 c2 c3 HT HSu
      cases T with
      | true =>
        have HN := hidd (HTT.out.1 rfl)
        go_wp2_with fail
        go_ret2
        exact ⟨HB.out, .inr ⟨HN.out, rfl⟩⟩
      | false =>
        have HY : Hid (SumOK bs) := Classical.byContradiction fun h => by have := HTT.out.2 h; cases this
        go_wp2_with fail
        go_ret2
        refine ⟨HB.out, .inl ⟨HY.out, ?_⟩⟩
        rw [HnL.out]
        rfl
end Go.Proofs.Ytbkedgpligcicaa
