import Derived.Test.YtibomnmgiimejakPkUf
import Derived.Test.YtibomnmgiimejakByteS
import Derived.Test.YtibomnmgiimejakOwnInts
namespace Go.Proofs.Ytibomnmgiimejak
open Go Go.RowKit
set_option linter.unusedVariables false

/-- The numbers as integers. -/
def toZ (vs : List Nat) : List Int := vs.map Int.ofNat
theorem nCells_toZ (vs : List Nat) : nCells vs = (toZ vs).map (Value.int .i64) := by simp [nCells, toZ]
theorem toZ_length (vs : List Nat) : (toZ vs).length = vs.length := by simp [toZ]
theorem any_of_own {w : World} {base g n : Nat} {bs : List UInt8} (h : w.ownsRow base 5 1 (.slice (some ⟨g, 0, none⟩) n n) n (Lib.byteCells bs)) (hl : bs.length = n) : AnyStretch w (.slice (some ⟨g, 0, none⟩) n n) bs := by
  subst hl
  by_cases h0 : bs.length = 0
  · have : bs = [] := List.length_eq_zero_iff.1 h0
    subst this
    exact Or.inl ⟨_, _, rfl, rfl⟩
  · exact Or.inr ⟨g, 0, _, rfl, by omega, Nat.le_refl _, own_bytes h rfl⟩

set_option maxHeartbeats 4000000 in
set_option maxRecDepth 100000 in
theorem unLaw_any (ao : Option Addr) (n cap : Nat) (bs : List UInt8) (w : World) (h : RowB w ao n bs) :
    Calls Try.prog 4 #[.slice ao n cap] w fun e w' => e = .returned (.bool true) ∧ Below w.heap.size w w' := by
  have HT : Hid (∀ w', n ≤ 1048576 → Below w.heap.size w w' → Calls Try.prog 18 #[.slice ao n cap] w' fun e w2 => e = .returned (.slice (some ⟨w'.heap.size, 0, none⟩) n n) ∧ w2.ownsRow w'.heap.size 5 1 (.slice (some ⟨w'.heap.size, 0, none⟩) n n) n (Lib.byteCells bs) ∧ Below w'.heap.size w' w2) := fun w' hn hb => h.to cap w' hn hb
  obtain ⟨rfl, _⟩ := h
  by_cases hlong : 1048576 < bs.length
  · have hlz : (1048576 : Int) < (bs.length : Int) := by omega
    go_enter Try.func4, Try.ntmps4
    go_wp2
    go_ret
    exact ⟨rfl, Below.refl _ _⟩
  · have hlz : ¬ (1048576 : Int) < (bs.length : Int) := by omega
    have hpl : (toZ (unOut bs).1).length ≤ 4096 := by rw [toZ_length]; exact (unOut_len bs).1
    have HS : Hid (∀ b W, AnyStretch W (.slice (some ⟨b, 0, none⟩) bs.length bs.length) bs → Calls Try.prog 17 #[.slice (some ⟨b, 0, none⟩) bs.length bs.length] W fun e w' => ∃ v', e = .returned (.tuple #[v', .int .i64 (unOut bs).2]) ∧ w'.ownsRow W.heap.size 3 1 v' (toZ (unOut bs).1).length ((toZ (unOut bs).1).map (Value.int .i64)) ∧ Below W.heap.size W w') := fun b W hW => by rw [← nCells_toZ, toZ_length]; exact specUnpackInts_any _ bs W hW
    have HI : Hid (∀ b W, AnyStretch W (.slice (some ⟨b, 0, none⟩) bs.length bs.length) bs → Calls Try.prog 19 #[.slice (some ⟨b, 0, none⟩) bs.length bs.length] W fun e w' => ∃ v', e = .returned (.tuple #[v', .int .i64 (unOut bs).2]) ∧ w'.ownsRow W.heap.size 3 1 v' (toZ (unOut bs).1).length ((toZ (unOut bs).1).map (Value.int .i64)) ∧ Below W.heap.size W w') := fun b W hW => by rw [← nCells_toZ, toZ_length]; exact implUnpackInts_any _ bs W hW
    generalize toZ (unOut bs).1 = ys at *
    generalize (unOut bs).2 = c at *
    have hcn : (c != c) = false := by simp
    go_enter Try.func4, Try.ntmps4
    go_wp2_with fail
    refine (HT.out _ (by omega) (Below.refl _ _)).mono ?_
    rintro e w1 ⟨rfl, hown1, hb1⟩
    have HO1 := hidd hown1
    have HB1 := hidd hb1
    clear hown1 hb1
    go_wp2_with fail
    refine (HS.out _ _ (any_of_own HO1.out rfl)).mono ?_
    rintro e w2 ⟨v0, rfl, hown2, hb2⟩
    have HO2 := hidd hown2
    have HB2 := hidd (HB1.out.trans (hb2.mono HB1.out.size))
    clear hown2 hb2 HO1
    go_wp2_with fail
    refine (HT.out _ (by omega) HB2.out).mono ?_
    rintro e w3 ⟨rfl, hown3, hb3⟩
    have HX3 := hidd hown3
    have HO3 := hidd (own_below HO2.out hb3)
    have HB3 := hidd (HB2.out.trans (hb3.mono HB2.out.size))
    have hz3 : w2.heap.size < w3.heap.size := own_lt hown3
    have Hv0 : Hid (∀ k, v0.ownBlock = some k → k < w2.heap.size) := fun k hk => (World.ownsRow.lt HO2.out k hk).2
    clear hown3 hb3 HO2
    go_wp2_with fail
    refine (HI.out w2.heap.size _ (any_of_own HX3.out rfl)).mono ?_
    rintro e w4 ⟨v1, rfl, hown4, hb4⟩
    have HG4 := hidd hown4
    have HO4 := hidd (own_below HO3.out hb4)
    have HX4 := hidd (own_below HX3.out hb4)
    have HB4 := hidd (HB3.out.trans (hb4.mono HB3.out.size))
    have Hv1 : Hid (∀ k, v1.ownBlock = some k → w3.heap.size ≤ k) := own_block hown4
    clear hown4 hb4 HO3 HX3
    go_wp2_with fail
    refine (eqInts_own _ _ ys.length v1 v0 ys _ (by omega) rfl HG4.out HO4.out).mono ?_
    rintro e w5 ⟨rfl, m5, rfl⟩
    go_wp2_with fail
    refine (HT.out _ (by omega) (below_drewN HB4.out m5)).mono ?_
    rintro e w6 ⟨rfl, hown6, hb6⟩
    have HY6 := hidd hown6
    have HX6 := hidd (own_below (own_drewN HX4.out m5) hb6)
    have HG6 := hidd (own_below (own_drewN HG4.out m5) hb6)
    have HO6 := hidd (own_below (own_drewN HO4.out m5) hb6)
    have HB6 := hidd ((below_drewN HB4.out m5).trans (hb6.mono (below_drewN HB4.out m5).size))
    clear hown6 hb6 HX4 HG4 HO4
    generalize (w4.drewN m5).heap.size = g6 at *
    go_wp2_with fail
    refine (eqBytes_own _ _ bs.length _ _ bs _ (by omega) rfl HX6.out HY6.out).mono ?_
    rintro e w7 ⟨rfl, m7, rfl⟩
    clear HY6
    go_wp2_with fail
    refine (markBytes_own _ bs.length _ _ 1 _ (by omega) (by omega) (by omega) (own_drewN HX6.out m7)).mono ?_
    rintro e w8 ⟨rfl, hown8, hg8⟩
    have hnx0 : v0.ownBlock ≠ some w2.heap.size := fun e => by have := Hv0.out _ e; omega
    have hnx1 : v1.ownBlock ≠ some w2.heap.size := fun e => by have := Hv1.out _ e; omega
    have HG8 := hidd ((own_drewN HG6.out m7).kept hg8 (Or.inr hnx1))
    have HO8 := hidd ((own_drewN HO6.out m7).kept hg8 (Or.inr hnx0))
    have HB8 : Hid (Below w.heap.size w w8) := (below_drewN HB6.out m7).grown hg8 (below_drewN HB6.out m7).size (fun k hk => by cases hk; exact HB2.out.size)
    clear hown8 hg8 HX6 HG6 HO6
    have hkz : ¬ (1 + (bs.length : Int)) < 0 := by omega
    go_wp2_with fail
    refine (eqInts_own _ _ ys.length v1 v0 ys _ (by omega) rfl HG8.out HO8.out).mono ?_
    rintro e w9 ⟨rfl, m9, rfl⟩
    go_wp2_with fail
    refine (markInts_own _ ys.length v1 _ 1 _ (by omega) (by omega) (by omega) (own_drewN HG8.out m9)).mono ?_
    rintro e w10 ⟨rfl, hown10, hg10⟩
    have hn01 : v0.ownBlock = none ∨ v0.ownBlock ≠ v1.ownBlock := by
      cases hv : v0.ownBlock with
      | none => exact Or.inl rfl
      | some k0 => exact Or.inr (fun e => by have h1 := Hv0.out _ hv; have h2 := Hv1.out k0 e.symm; omega)
    have HM := hidd hown10
    have HOA := hidd ((own_drewN HO8.out m9).kept hg10 hn01)
    have HBA : Hid (Below w.heap.size w w10) := (below_drewN HB8.out m9).grown hg10 (below_drewN HB8.out m9).size (fun k hk => by have := Hv1.out k hk; have := HB3.out.size; omega)
    clear hown10 hg10 HG8 HO8
    go_wp2_with fail
    refine (heldInts_own _ ys.length v1 1 _ (by omega) (by omega) (by omega) HM.out).mono ?_
    rintro e w11 ⟨rfl, hw11⟩
    obtain rfl := hw11.symm
    clear hw11
    go_wp2_with fail
    refine (HT.out _ (by omega) HBA.out).mono ?_
    rintro e w12 ⟨rfl, hown12, hb12⟩
    have HX12 := hidd hown12
    have HM12 := hidd (own_below HM.out hb12)
    have HO12 := hidd (own_below HOA.out hb12)
    have HB12 := hidd (HBA.out.trans (hb12.mono HBA.out.size))
    have hz12 : w10.heap.size < w12.heap.size := own_lt hown12
    clear hown12 hb12 HM HOA
    go_wp2_with fail
    refine (HI.out w10.heap.size _ (any_of_own HX12.out rfl)).mono ?_
    rintro e w13 ⟨v2, rfl, hown13, hb13⟩
    have HG13 := hidd hown13
    have HM13 := hidd (own_below HM12.out hb13)
    have HO13 := hidd (own_below HO12.out hb13)
    have HB13 := hidd (HB12.out.trans (hb13.mono HB12.out.size))
    clear hown13 hb13 HM12 HO12 HX12
    go_wp2_with fail
    refine (eqInts_own _ _ ys.length v2 v0 ys _ (by omega) rfl HG13.out HO13.out).mono ?_
    rintro e w14 ⟨rfl, m14, rfl⟩
    go_wp2_with fail
    refine (heldInts_own _ ys.length v1 1 _ (by omega) (by omega) (by omega) (own_drewN HM13.out m14)).mono ?_
    rintro e w15 ⟨rfl, hw15⟩
    obtain rfl := hw15.symm
    clear hw15
    go_wp2
    go_ret
    exact ⟨rfl, below_drewN HB13.out m14⟩
end Go.Proofs.Ytibomnmgiimejak
