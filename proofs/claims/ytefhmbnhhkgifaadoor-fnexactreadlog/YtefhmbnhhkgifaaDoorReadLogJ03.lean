import Derived.Test.YtefhmbnhhkgifaaDoorReadLogJ00
import Derived.Test.YtefhmbnhhkgifaaDoorReadLogJ01
import Derived.Test.YtefhmbnhhkgifaaDoorReadLogJ02
namespace Go.Proofs.YtefhmbnhhkgifaaDoor
open Go Go.RowKit
set_option linter.unusedVariables false
set_option maxRecDepth 100000

/-- A reader as it lies in a world: bs is what is left, sh that it came short. -/
structure RdrG (ty : TypeId) (w0 W : World) (B : Nat) (bs : List UInt8) (sh : Bool) : Prop where
  old : Below w0.heap.size w0 W
  new : w0.heap.size ≤ B
  box : ∃ v, W.heap[B]? = some (.cells #[v, .bool sh] ty) ∧ ((bs = [] ∧ ∃ a c, v = .slice a 0 c) ∨ ∃ b off c, v = .slice (some ⟨b, off, none⟩) bs.length c ∧ bs.length ≤ c ∧ b < w0.heap.size ∧ BytesAt w0 b off bs)
/-- What a call on the reader leaves as it was. -/
def RdFr (B : Nat) (W W' : World) : Prop := W.heap.size ≤ W'.heap.size ∧ ∀ b, b < W.heap.size → b ≠ B → W'.heap[b]? = W.heap[b]?
theorem RdFr.refl (B : Nat) (W : World) : RdFr B W W := ⟨Nat.le_refl _, fun _ _ _ => rfl⟩
theorem RdFr.trans {B : Nat} {W W' W'' : World} (h : RdFr B W W') (h' : RdFr B W' W'') : RdFr B W W'' := ⟨Nat.le_trans h.1 h'.1, fun b hb hne => (h'.2 b (Nat.lt_of_lt_of_le hb h.1) hne).trans (h.2 b hb hne)⟩
theorem RdFr.set (B k : Nat) (u : Value) (W : World) : RdFr B W (W.setCell ⟨B, k, none⟩ u) := ⟨by simp, fun b hb hne => heap_set_other W B k u b hne⟩
def numR (most : Nat) (bs : List UInt8) (sh : Bool) : Int × List UInt8 × Bool := match getL bs with
  | none => (0, [], true)
  | some (v, s) => if v ≤ most then ((v : Int), bs.drop s, sh) else (0, [], true)
set_option maxHeartbeats 1000000 in
theorem stop_any {ty : TypeId} {w0 W : World} {B : Nat} {bs : List UInt8} {sh : Bool} (h : RdrG ty w0 W B bs sh) :
    Calls Tryd.prog 39 #[.pointer (some ⟨B, 0, none⟩)] W fun e w' => e = .returned (.int .i64 0) ∧ RdrG ty w0 w' B [] true ∧ RdFr B W w' := by
  obtain ⟨v, hb, _⟩ := h.box
  have x0 := blkc hb 0
  have x1 := blkc hb 1
  have f0 := blkf hb 0
  have f1 := blkf hb 1
  have HP : Hid (RdrG ty w0 ((W.setCell ⟨B, 0, none⟩ (.slice none 0 0)).setCell ⟨B, 1, none⟩ (.bool true)) B [] true ∧ RdFr B W ((W.setCell ⟨B, 0, none⟩ (.slice none 0 0)).setCell ⟨B, 1, none⟩ (.bool true))) :=
    ⟨⟨(h.old.setCell (p := ⟨B, 0, none⟩) h.new _).setCell (p := ⟨B, 1, none⟩) h.new _, h.new, .slice none 0 0, blk_set2 hb, Or.inl ⟨rfl, none, 0, rfl⟩⟩, (RdFr.set B 0 _ W).trans (RdFr.set B 1 _ _)⟩
  clear h hb
  go_enter Tryd.func39, Tryd.ntmps39
  go_wp2
  go_ret
  exact ⟨rfl, HP.out⟩
theorem BytesAt.dropR {w : World} {b off : Nat} {bs : List UInt8} (h : BytesAt w b off bs) (k : Nat) : BytesAt w b (off + k) (bs.drop k) := by
  intro t ht
  rw [List.length_drop] at ht
  have := h (k + t) (by omega)
  rw [show off + k + t = off + (k + t) by omega, this]
  simp [List.getD_eq_getElem?_getD, List.getElem?_drop]
theorem RdrG.cut {ty : TypeId} {w0 W : World} {B : Nat} {bs : List UInt8} {sh : Bool} {b off c : Nat} (h : RdrG ty w0 W B bs sh) (hb : W.heap[B]? = some (.cells #[.slice (some ⟨b, off, none⟩) bs.length c, .bool sh] ty)) (hc : bs.length ≤ c) (hlt : b < w0.heap.size) (hB : BytesAt w0 b off bs) (k n : Nat) (hk : k + n = bs.length) (a' : Option Addr) (c' : Nat) (hq : n = 0 ∨ (a' = some ⟨b, off + k, none⟩ ∧ c' = c - k)) :
    RdrG ty w0 (W.setCell ⟨B, 0, none⟩ (.slice a' n c')) B (bs.drop k) sh ∧ RdFr B W (W.setCell ⟨B, 0, none⟩ (.slice a' n c')) := by
  refine ⟨⟨h.old.setCell (p := ⟨B, 0, none⟩) h.new _, h.new, .slice a' n c', (blk_setk hb 0 _).trans (by simp), ?_⟩, RdFr.set B 0 _ W⟩
  rcases hq with rfl | ⟨rfl, rfl⟩
  · exact Or.inl ⟨List.drop_of_length_le (by omega), a', c', rfl⟩
  · exact Or.inr ⟨b, off + k, c - k, by rw [List.length_drop, show bs.length - k = n by omega], by rw [List.length_drop]; omega, hlt, hB.dropR k⟩
theorem BytesAt.old {w0 W : World} {b off : Nat} {bs : List UInt8} (h : BytesAt w0 b off bs) (ho : Below w0.heap.size w0 W) (hlt : b < w0.heap.size) : BytesAt W b off bs :=
  fun t ht => (ho.cell (p := ⟨b, off + t, none⟩) hlt).trans (h t ht)
set_option maxHeartbeats 1000000 in
theorem number_any {ty : TypeId} {w0 W : World} {B most : Nat} {bs : List UInt8} {sh : Bool} (hn : bs.length ≤ 1048576) (hm : most ≤ 4611686018427387904) (h : RdrG ty w0 W B bs sh) :
    Calls Tryd.prog 23 #[.pointer (some ⟨B, 0, none⟩), .int .i64 (most : Int)] W fun e w' => e = .returned (.int .i64 (numR most bs sh).1) ∧ RdrG ty w0 w' B (numR most bs sh).2.1 (numR most bs sh).2.2 ∧ RdFr B W w' := by
  obtain ⟨v, hb, hv⟩ := h.box
  have HH := hidd h
  have hcall : ∃ a c, v = .slice a bs.length c ∧ Calls Tryd.prog 40 #[.slice a bs.length c] W (fun e w' => e = .returned (.tuple #[.int .i64 (getV bs), .int .i64 (getS bs)]) ∧ w' = W) := by
    rcases hv with ⟨rfl, a, c, e⟩ | ⟨b, off, c, e, hc, hlt, hB⟩
    · exact ⟨a, c, e, leadingInt_none a c W⟩
    · exact ⟨_, c, e, leadingInt_some b off c bs W hn (hB.old h.old hlt)⟩
  obtain ⟨a, c, rfl, hcall⟩ := hcall
  have HC := hidd hcall
  have x0 := blkc hb 0
  have f0 := blkf hb 0
  cases hg : getL bs with
  | none =>
    obtain ⟨e1, e2⟩ := getVS_none hg
    rw [e1, e2] at HC
    have HE : Hid (numR most bs sh = (0, [], true)) := by show _ = _; rw [numR, hg]
    clear h hb hv hcall hg e1 e2
    go_enter Tryd.func23, Tryd.ntmps23
    go_wp2_with fail
    refine HC.out.mono ?_
    rintro e w2 ⟨rfl, rfl⟩
    go_wp2_with fail
    refine (stop_any HH.out).mono ?_
    rintro e w3 ⟨rfl, h2, h3⟩
    have HP := hidd (And.intro h2 h3)
    clear h2 h3
    go_wp2_with fail
    go_ret
    rw [HE.out]
    exact ⟨rfl, HP.out⟩
  | some p =>
    obtain ⟨y, s⟩ := p
    obtain ⟨e1, e2⟩ := getVS_some hg
    rw [e1, e2] at HC
    obtain ⟨hs1, hs2, hs3⟩ := getL_le hg
    have hy := (getL_inv hg).2.1
    have hs0 : ((s : Int) == 0) = false := by simp; omega
    by_cases hle : y ≤ most
    · have hlez : ¬ (most : Int) < (y : Int) := by omega
      have HE : Hid (numR most bs sh = ((y : Int), bs.drop s, sh)) := by show _ = _; rw [numR, hg]; show (if y ≤ most then _ else _) = _; rw [if_pos hle]
      obtain ⟨b, off, c2, e3, hc, hlt, hB⟩ := hv.resolve_left (fun h => by have := congrArg List.length h.1; rw [List.length_nil] at this; omega)
      simp only [Value.slice.injEq, true_and] at e3
      obtain ⟨rfl, rfl⟩ := e3
      have HP := hidd (h.cut hb hc hlt hB s (bs.length - s) (by omega))
      have hsl : (s : Int) ≤ (bs.length : Int) := by omega
      clear h hb hv hcall hg e1 e2 hB
      go_enter Tryd.func23, Tryd.ntmps23
      go_wp2_with fail
      refine HC.out.mono ?_
      rintro e w2 ⟨rfl, rfl⟩
      go_wp2_with fail
      all_goals
        go_ret
        rw [HE.out]
        exact ⟨rfl, HP.out _ _ (by first | exact Or.inr ⟨rfl, rfl⟩ | (left; omega))⟩
    · have hlez : (most : Int) < (y : Int) := by omega
      have HE : Hid (numR most bs sh = (0, [], true)) := by show _ = _; rw [numR, hg]; show (if y ≤ most then _ else _) = _; rw [if_neg hle]
      clear h hb hv hcall hg e1 e2
      go_enter Tryd.func23, Tryd.ntmps23
      go_wp2_with fail
      refine HC.out.mono ?_
      rintro e w2 ⟨rfl, rfl⟩
      go_wp2_with fail
      refine (stop_any HH.out).mono ?_
      rintro e w3 ⟨rfl, h2, h3⟩
      have HP := hidd (And.intro h2 h3)
      clear h2 h3
      go_wp2_with fail
      go_ret
      rw [HE.out]
      exact ⟨rfl, HP.out⟩
theorem RdrG.keep {ty : TypeId} {w0 W W' : World} {B : Nat} {bs : List UInt8} {sh : Bool} (h : RdrG ty w0 W B bs sh) (ho : Below w0.heap.size w0 W') (hk : W'.heap[B]? = W.heap[B]?) : RdrG ty w0 W' B bs sh := by
  obtain ⟨v, hb, hv⟩ := h.box
  exact ⟨ho, h.new, v, hk.trans hb, hv⟩
theorem RdrG.lt {ty : TypeId} {w0 W : World} {B : Nat} {bs : List UInt8} {sh : Bool} (h : RdrG ty w0 W B bs sh) : B < W.heap.size := by
  obtain ⟨v, hb, _⟩ := h.box
  exact (Array.getElem?_eq_some_iff.1 hb).1
theorem RdrG.below {ty : TypeId} {w0 W W' : World} {B : Nat} {bs : List UInt8} {sh : Bool} (h : RdrG ty w0 W B bs sh) (hb : Below W.heap.size W W') : RdrG ty w0 W' B bs sh := h.keep (h.old.trans (hb.mono h.old.size)) (hb.block B h.lt)
theorem numR_rd {most : Nat} {bs : List UInt8} {v : Nat} {r : List UInt8} (h : rdN most bs = some (v, r)) (sh : Bool) : numR most bs sh = ((v : Int), r, sh) := by
  unfold rdN at h
  unfold numR
  cases hg : getL bs with
  | none => rw [hg] at h; simp at h
  | some p =>
    obtain ⟨v', s⟩ := p
    rw [hg] at h
    simp only at h ⊢
    split at h
    · rename_i hle
      simp only [Option.some.injEq, Prod.mk.injEq] at h
      obtain ⟨rfl, rfl⟩ := h
      rw [if_pos hle]
    · simp at h
theorem numR_no {most : Nat} {bs : List UInt8} (h : rdN most bs = none) (sh : Bool) : numR most bs sh = (0, [], true) := by
  unfold rdN at h
  unfold numR
  cases hg : getL bs with
  | none => rfl
  | some p =>
    obtain ⟨v', s⟩ := p
    rw [hg] at h
    simp only at h ⊢
    split at h
    · simp at h
    · rename_i hle
      rw [if_neg hle]
abbrev RdrAt := RdrG 89
end Go.Proofs.YtefhmbnhhkgifaaDoor
