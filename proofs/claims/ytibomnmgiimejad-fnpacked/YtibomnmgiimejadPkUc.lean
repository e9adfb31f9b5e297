import Derived.Test.YtibomnmgiimejadPkUb
namespace Go.Proofs.Ytibomnmgiimejad
open Go Go.RowKit
set_option linter.unusedVariables false

/-- A slice of bytes of any length that tells bs in w. -/
def AnyStretch (w : World) (v : Value) (bs : List UInt8) : Prop :=
  (∃ ao cap, v = .slice ao 0 cap ∧ bs = []) ∨ ∃ b off cap, v = .slice (some ⟨b, off, none⟩) bs.length cap ∧ 0 < bs.length ∧ bs.length ≤ cap ∧ BytesAt w b off bs
theorem AnyStretch.short {w : World} {v : Value} {bs : List UInt8} (h : AnyStretch w v bs) (hl : bs.length ≤ 1048576) : Stretch w v bs := by
  rcases h with h | ⟨b, off, cap, h1, h2, h3, h4⟩
  · exact Or.inl h
  · exact Or.inr ⟨b, off, cap, h1, h2, hl, h3, h4⟩
theorem AnyStretch.len {w : World} {v : Value} {bs : List UInt8} (h : AnyStretch w v bs) : ∃ ao cap, v = .slice ao bs.length cap := by
  rcases h with ⟨ao, cap, rfl, rfl⟩ | ⟨b, off, cap, rfl, hpos, hcap, hc⟩
  · exact ⟨ao, cap, rfl⟩
  · exact ⟨_, cap, rfl⟩

/-- What UnpackInts tells: the numbers, the code. -/
def unOut (bs : List UInt8) : List Nat × Int :=
  if 1048576 < bs.length then ([], 2) else match unAll bs with
  | none => ([], 3)
  | some vs => (vs, 0)
theorem unOut_len (bs : List UInt8) : (unOut bs).1.length ≤ 4096 ∧ nums62 (unOut bs).1 := by
  unfold unOut
  by_cases h : 1048576 < bs.length
  · rw [if_pos h]; exact ⟨by simp, fun v hv => by simp at hv⟩
  · rw [if_neg h]
    cases hu : unAll bs with
    | none => exact ⟨by simp, fun v hv => by simp at hv⟩
    | some vs => exact ⟨(unAll_some hu).2.1, (unAll_some hu).2.2⟩

set_option maxHeartbeats 1000000 in
set_option maxRecDepth 100000 in
theorem implUnpackInts_any (v : Value) (bs : List UInt8) (w : World) (hst : AnyStretch w v bs) :
    Calls Try.prog 8 #[v] w fun e w' => ∃ u, e = .returned (.tuple #[u, .int .i64 (unOut bs).2]) ∧ w'.ownsRow w.heap.size 3 1 u (unOut bs).1.length (nCells (unOut bs).1) ∧ Below w.heap.size w w' := by
  have HS := hidd hst
  obtain ⟨ao, cp, rfl⟩ := hst.len
  clear hst
  by_cases hlong : 1048576 < bs.length
  · have hlz : (1048576 : Int) < (bs.length : Int) := by omega
    have HE : Hid (unOut bs = ([], 2)) := by show _ = _; rw [unOut, if_pos hlong]
    go_enter Try.func8, Try.ntmps8
    go_wp2
    go_ret2
    rw [HE.out]
    exact ⟨_, rfl, World.ownsRow_nil _ _ _ _, Below.refl _ _⟩
  · have hlz : ¬ (1048576 : Int) < (bs.length : Int) := by omega
    have HE : Hid (unOut bs = match unAll bs with
      | none => ([], 3)
      | some vs => (vs, 0)) := by show _ = _; rw [unOut, if_neg hlong]
    have HC := hidd (unpacked_any _ bs w (HS.out.short (by omega)))
    clear HS
    go_enter Try.func8, Try.ntmps8
    go_wp2_with (first | (go_at_call 35; refine HC.out.mono ?_))
    rintro e w1 ⟨hb1, h1⟩
    have HB1 := hidd hb1
    clear hb1 HC
    rcases h1 with ⟨hno, u, rfl⟩ | ⟨vs, u, hyes, rfl, hown⟩
    · rw [hno] at HE
      clear hno
      go_wp2
      go_ret2
      rw [HE.out]
      exact ⟨_, rfl, World.ownsRow_nil _ _ _ _, HB1.out⟩
    · rw [hyes] at HE
      have HO := hidd hown
      clear hyes hown
      go_wp2
      go_ret2
      rw [HE.out]
      exact ⟨_, rfl, HO.out, HB1.out⟩
end Go.Proofs.Ytibomnmgiimejad
