import Derived.Test.YtibomnmgiimejadPkV2
import Derived.Test.YtibomnmgiimejadPkC
import Derived.Test.YtibomnmgiimejadOwn
namespace Go.Proofs.Ytibomnmgiimejad
open Go Go.RowKit
set_option linter.unusedVariables false

theorem bytesAt_drop {w : World} {b off : Nat} {bs : List UInt8} (h : BytesAt w b off bs) (k : Nat) : BytesAt w b (off + k) (bs.drop k) := by
  intro t ht
  rw [List.length_drop] at ht
  have := h (k + t) (by omega)
  rw [← Nat.add_assoc] at this
  rw [this]
  simp

/-- A slice of bytes that tells bs in w. -/
def Stretch (w : World) (v : Value) (bs : List UInt8) : Prop :=
  (∃ ao cap, v = .slice ao 0 cap ∧ bs = []) ∨ ∃ b off cap, v = .slice (some ⟨b, off, none⟩) bs.length cap ∧ 0 < bs.length ∧ bs.length ≤ 1048576 ∧ bs.length ≤ cap ∧ BytesAt w b off bs
theorem Stretch.le {w : World} {v : Value} {bs : List UInt8} (h : Stretch w v bs) : bs.length ≤ 1048576 := by
  rcases h with ⟨ao, cap, rfl, rfl⟩ | ⟨b, off, cap, rfl, hpos, hle, hcap, hc⟩
  · simp
  · exact hle
theorem Stretch.below {w w' : World} {v : Value} {bs : List UInt8} (h : Stretch w v bs) (hb : Below w.heap.size w w') : Stretch w' v bs := by
  rcases h with ⟨ao, cap, rfl, rfl⟩ | ⟨b, off, cap, rfl, hpos, hle, hcap, hc⟩
  · exact Or.inl ⟨ao, cap, rfl, rfl⟩
  · have hbw : b < w.heap.size := cell_lt (hc 0 hpos)
    exact Or.inr ⟨b, off, cap, rfl, hpos, hle, hcap, fun t ht => (hb.cell (p := ⟨b, off + t, none⟩) hbw).trans (hc t ht)⟩
theorem Stretch.len {w : World} {v : Value} {bs : List UInt8} (h : Stretch w v bs) : ∃ ao cap, v = .slice ao bs.length cap := by
  rcases h with ⟨ao, cap, rfl, rfl⟩ | ⟨b, off, cap, rfl, hpos, hle, hcap, hc⟩
  · exact ⟨ao, cap, rfl⟩
  · exact ⟨_, cap, rfl⟩
theorem leadingInt_st (v : Value) (bs : List UInt8) (w : World) (h : Stretch w v bs) :
    Calls Try.prog 38 #[v] w fun e w' => e = .returned (.tuple #[.int .i64 (getV bs), .int .i64 (getS bs)]) ∧ w' = w := by
  rcases h with ⟨ao, cap, rfl, rfl⟩ | ⟨b, off, cap, rfl, hpos, hle, hcap, hc⟩
  · exact leadingInt_none ao cap w
  · exact leadingInt_some b off cap bs w hle hc

section
variable {ops : Array Oper} {rest : List Oper} {o : Oper} {a : Act} {w : World} {Q : Exit → Act → World → Prop}
set_option maxRecDepth 1000000 in
theorem wpS_from {w0 : World} (hgd : o.guard = none) (x y : Operand) (ho : o.op = .slice 22 x (some y) none none) (v : Value) (bs : List UInt8) (s : Nat) (hx : a.eval x = v) (hy : a.eval y = .int .i64 (s : Int)) (hst : Stretch w0 v bs) (hs : s ≤ bs.length) (hs1 : 1 ≤ s)
    (h : ∀ v', Stretch w0 v' (bs.drop s) → wpList Try.prog ops Q rest (a.put o.dst v') w) : wpList Try.prog ops Q (o :: rest) a w := by
  rcases hst with ⟨ao, cap, rfl, rfl⟩ | ⟨b, off, cap, rfl, hpos, hle, hcap, hc⟩
  · simp at hs; omega
  · have hr := run_slice_l (P := Try.prog) w 22 (some ⟨b, off, none⟩) bs.length cap Try.underlying22 .i64 (s : Int) (by omega) (by omega)
    have hsz : (sizeOf (Try.prog.elem 22)).run Try.prog w = .ok 1 w := Try.sizeOf5 w
    rw [hsz] at hr
    simp only [Result.andThen_ok, Int.toNat_natCast, sliced, Nat.mul_one] at hr
    have hrr := run_sliceAt_slice (P := Try.prog) w 22 (.slice (some ⟨b, off, none⟩) bs.length cap) (some (.int .i64 (s : Int))) none none Try.underlying22
    refine wpList_plain hgd fun K hK => ?_
    unfold Oper.wp execOp
    simp only [ho, Option.map_some, Option.map_none, hx, hy, Sem.run_bind, Sem.run_pure, Result.andThen_ok, hrr, hr]
    refine hK _ _ (h _ ?_)
    by_cases hcs : cap = s
    · have hdr : bs.drop s = [] := List.drop_eq_nil_iff.2 (by omega)
      rw [if_pos hcs]
      have : bs.length - s = 0 := by omega
      rw [this]
      exact Or.inl ⟨_, _, rfl, hdr⟩
    · rw [if_neg hcs]
      by_cases hend : bs.length = s
      · have hdr : bs.drop s = [] := List.drop_eq_nil_iff.2 (by omega)
        have : bs.length - s = 0 := by omega
        rw [this]
        exact Or.inl ⟨_, _, rfl, hdr⟩
      · refine Or.inr ⟨b, off + s, cap - s, ?_, by rw [List.length_drop]; omega, by rw [List.length_drop]; omega, by rw [List.length_drop]; omega, bytesAt_drop hc s⟩
        rw [List.length_drop]; simp [Addr.add]; omega
end

def nCells (vs : List Nat) : List Value := vs.map fun (v : Nat) => Value.int .i64 (v : Int)
theorem nCells_snoc (l : List Nat) (x : Nat) : nCells (l ++ [x]) = nCells l ++ [.int .i64 (x : Int)] := by simp [nCells]
theorem infoN64 : (Try.prog.info? 3).map (fun i => (i.zero, i.size, i.bytes)) = some (some (.int .i64 0), 1, 8) := by kernel_rfl
def vlen : Value → Nat
  | .slice _ n _ => n
  | _ => 0
theorem readBlock_some {bs : List UInt8} {n : Nat} {vs : List Nat} {s : Nat} (h : readBlock bs n = some (vs, s)) : vs.length = n ∧ nums62 vs ∧ 1 ≤ s ∧ s ≤ bs.length := by
  rw [readBlock] at h
  cases hr : rawBlock bs n with
  | none => rw [hr] at h; cases h
  | some p =>
    obtain ⟨us, r⟩ := p
    rw [hr] at h
    simp only at h
    by_cases hb : blockL us = bs.take r
    · rw [if_pos hb] at h; cases h
      obtain ⟨h1, h2, h3, h4, _⟩ := rawBlock_some hr
      exact ⟨h1, h2, h3, h4⟩
    · rw [if_neg hb] at h; cases h

end Go.Proofs.Ytibomnmgiimejad
