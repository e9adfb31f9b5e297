import Derived.Test.YtibomnmgiimejakPkUd
namespace Go.Proofs.Ytibomnmgiimejak
open Go Go.RowKit
set_option linter.unusedVariables false

set_option maxHeartbeats 1000000 in
set_option maxRecDepth 100000 in
theorem specGet_none (ao : Option Addr) (cap : Nat) (w : World) :
    Calls Try.prog 66 #[.slice ao 0 cap, .int .i64 0] w fun e w' => (∃ m, w' = w.drewN m) ∧ ∃ x y : Int, e = .returned (.tuple #[.int .i64 x, .int .i64 y, .bool false]) := by
  go_enter Try.func66, Try.ntmps66
  go_wp2
  refine wp_loop_rounds 1 ?_
  rw [rounds_succ]
  go_wp2
  go_ret3
  exact ⟨⟨0, rfl⟩, _, _, rfl⟩
set_option maxHeartbeats 1000000 in
set_option maxRecDepth 100000 in
theorem l03Unpack_none (ao : Option Addr) (cap : Nat) (w : World) :
    Calls Try.prog 40 #[.slice ao 0 cap, .int .i64 0] w fun e w' => Below w.heap.size w w' ∧ ∃ xo xc, e = .returned (.tuple #[.slice xo 0 xc, .int .i64 0, .bool false]) := by
  have HG := hidd (specGet_none ao cap w)
  go_enter Try.func40, Try.ntmps40
  go_wp2_with (first | (go_at_call 66; refine HG.out.mono ?_))
  rintro e w1 ⟨⟨m1, rfl⟩, x, y, rfl⟩
  have HB1 : Hid (Below w.heap.size w (w.drewN m1)) := below_drewN (Below.refl _ _) m1
  generalize w.drewN m1 = w1 at *
  clear HG
  go_wp2
  go_ret3
  exact ⟨HB1.out.alloc HB1.out.size _, _, _, rfl⟩

theorem l03Unpack_any (ao : Option Addr) (cp : Nat) (bs : List UInt8) (w : World) (hst : Stretch w (.slice ao bs.length cp) bs) :
    Calls Try.prog 40 #[.slice ao bs.length cp, .int .i64 0] w fun e w' => Below w.heap.size w w' ∧ ((unpackL bs = none ∧ ∃ xo xc, e = .returned (.tuple #[.slice xo 0 xc, .int .i64 0, .bool false])) ∨ ∃ vs s u, unpackL bs = some (vs, s) ∧ e = .returned (.tuple #[u, .int .i64 (s : Int), .bool true]) ∧ w'.ownsRow w.heap.size 3 1 u vs.length (nCells vs)) := by
  rcases hst with ⟨ao', cap', h, rfl⟩ | ⟨b, off, cap', h, hpos, hle, hcap, hc⟩
  · refine (l03Unpack_none ao cp w).mono ?_
    rintro e w' ⟨h1, xo, xc, rfl⟩
    exact ⟨h1, Or.inl ⟨by simp [unpackL, getL, getGo], xo, xc, rfl⟩⟩
  · cases h
    exact l03Unpack_some b off _ bs w hpos hle hcap hc

set_option maxHeartbeats 1000000 in
set_option maxRecDepth 100000 in
theorem specUnpackInts_any (v : Value) (bs : List UInt8) (w : World) (hst : AnyStretch w v bs) :
    Calls Try.prog 17 #[v] w fun e w' => ∃ u, e = .returned (.tuple #[u, .int .i64 (unOut bs).2]) ∧ w'.ownsRow w.heap.size 3 1 u (unOut bs).1.length (nCells (unOut bs).1) ∧ Below w.heap.size w w' := by
  have HS := hidd hst
  obtain ⟨ao, cp, rfl⟩ := hst.len
  clear hst
  by_cases hlong : 1048576 < bs.length
  · have hlz : (1048576 : Int) < (bs.length : Int) := by omega
    have HE : Hid (unOut bs = ([], 2)) := by show _ = _; rw [unOut, if_pos hlong]
    go_enter Try.func17, Try.ntmps17
    go_wp2
    go_ret2
    rw [HE.out]
    exact ⟨_, rfl, own_empty _ _, (Below.refl _ _).alloc (Nat.le_refl _) _⟩
  · have hlz : ¬ (1048576 : Int) < (bs.length : Int) := by omega
    have HE : Hid (unOut bs = match unAll bs with
      | none => ([], 3)
      | some vs => (vs, 0)) := by show _ = _; rw [unOut, if_neg hlong]; cases unAll bs <;> rfl
    have HC := hidd (l03Unpack_any ao cp bs w (HS.out.short (by omega)))
    clear HS
    go_enter Try.func17, Try.ntmps17
    go_wp2_with (first | (go_at_call 40; refine HC.out.mono ?_))
    rintro e w1 hb1 h1
    have HB1 := hidd hb1
    clear hb1 HC
    rcases h1 with ⟨hno, u, u', rfl⟩ | ⟨vs, s, hyes, u, rfl, hown⟩
    · have HN : Hid (unAll bs = none) := by show _ = _; rw [unAll, hno]
      rw [HN.out] at HE
      clear hno
      go_wp2
      go_ret2
      rw [HE.out]
      exact ⟨_, rfl, own_mono (own_empty _ _) HB1.out.size, HB1.out.alloc HB1.out.size _⟩
    · by_cases hs : s = bs.length
      · have HN : Hid (unAll bs = some vs) := by show _ = _; rw [unAll, hyes]; simp [hs]
        rw [HN.out] at HE
        have HO := hidd hown
        have hsz : ((s : Int) != (bs.length : Int)) = false := by simp [hs]
        clear hyes hown
        go_wp2
        go_ret2
        rw [HE.out]
        exact ⟨_, rfl, HO.out, HB1.out⟩
      · have HN : Hid (unAll bs = none) := by show _ = _; rw [unAll, hyes]; simp [hs]
        rw [HN.out] at HE
        have hs' : ¬ (s : Int) = (bs.length : Int) := by omega
        have hsz : ((s : Int) != (bs.length : Int)) = true := by simp [hs']
        clear hyes hown
        go_wp2
        go_ret2
        rw [HE.out]
        exact ⟨_, rfl, own_mono (own_empty _ _) HB1.out.size, HB1.out.alloc HB1.out.size _⟩
end Go.Proofs.Ytibomnmgiimejak
