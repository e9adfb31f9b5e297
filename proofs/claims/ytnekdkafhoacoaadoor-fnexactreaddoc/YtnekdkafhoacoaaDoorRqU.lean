import Derived.Test.YtnekdkafhoacoaaDoorRqR
namespace Go.Proofs.YtnekdkafhoacoaaDoor
open Go Go.RowKit
set_option linter.unusedVariables false
set_option maxRecDepth 100000

/-- What the reader panics with, as it lies in a world. -/
def ErrC (w : World) (u : TypeId) (pv : Value) : Prop := w.cell? ⟨0, 0, none⟩ = some (.iface u pv) ∧ 0 < w.heap.size
theorem ErrC.at {w W : World} {u : TypeId} {pv : Value} (h : ErrC w u pv) (ho : Below w.heap.size w W) : W.cell? ⟨0, 0, none⟩ = some (.iface u pv) := (ho.cell (p := ⟨0, 0, none⟩) h.2).trans h.1
/-- A way out by the reader's panic. -/
def Cut (u : TypeId) (pv : Value) (w0 W : World) (B : Nat) (e : Ending) (w' : World) : Prop := e = .panicked [{ v := .iface u pv, recovered := false }] ∧ Below w0.heap.size w0 w' ∧ RdFr B W w'
set_option maxHeartbeats 1000000 in
theorem upTo_none {w0 W : World} {u : TypeId} {pv : Value} {B most : Nat} {bs : List UInt8} (hE : ErrC w0 u pv) (hn : bs.length ≤ 1048576) (hm : most ≤ 2000000000000) (h : RdrAt w0 W B bs false) (hr : rdN most bs = none) :
    Calls Tryd.prog 58 #[.pointer (some ⟨B, 0, none⟩), .int .i64 (most : Int)] W fun e w' => Cut u pv w0 W B e w' := by
  have HN := hidd (number_any hn hm h)
  rw [numR_no hr] at HN
  have HE := hidd hE
  clear h hE hr
  go_enter Tryd.func58, Tryd.ntmps58
  go_wp2_with fail
  refine HN.out.mono ?_
  rintro e w2 ⟨rfl, h2, h3⟩
  clear HN
  obtain ⟨v, hb, _⟩ := h2.box
  have x1 := blkc hb 1
  have x0 := HE.out.at h2.old
  have HC : Hid (Below w0.heap.size w0 w2 ∧ RdFr B W w2) := ⟨h2.old, h3⟩
  clear h2 h3 hb
  go_wp2_with fail
  exact ⟨rfl, rfl, HC.out⟩
set_option maxHeartbeats 1000000 in
theorem upTo_some {w0 W : World} {B most v : Nat} {bs r : List UInt8} (hn : bs.length ≤ 1048576) (hm : most ≤ 2000000000000) (h : RdrAt w0 W B bs false) (hr : rdN most bs = some (v, r)) :
    Calls Tryd.prog 58 #[.pointer (some ⟨B, 0, none⟩), .int .i64 (most : Int)] W fun e w' => e = .returned (.int .i64 (v : Int)) ∧ RdrAt w0 w' B r false ∧ RdFr B W w' := by
  have HN := hidd (number_any hn hm h)
  rw [numR_rd hr false] at HN
  clear h hr
  go_enter Tryd.func58, Tryd.ntmps58
  go_wp2_with fail
  refine HN.out.mono ?_
  rintro e w2 ⟨rfl, h2, h3⟩
  clear HN
  obtain ⟨v, hb, _⟩ := h2.box
  have x1 := blkc hb 1
  have HC := hidd (And.intro h2 h3)
  clear h2 h3 hb
  go_wp2_with fail
  go_ret
  exact ⟨rfl, HC.out⟩
/-- Bytes taken off the front. -/
def TakeP (w0 W : World) (B : Nat) (bs : List UInt8) (n : Nat) (e : Ending) (w' : World) : Prop := ∃ a c, e = .returned (.slice a n c) ∧ (n = 0 ∨ ∃ b off, a = some ⟨b, off, none⟩ ∧ BytesAt w' b off (bs.take n)) ∧ RdrAt w0 w' B (bs.drop n) false ∧ RdFr B W w'
set_option maxHeartbeats 1000000 in
theorem take_some {w0 W : World} {B n : Nat} {bs : List UInt8} (hn : bs.length ≤ 1048576) (h : RdrAt w0 W B bs false) (hle : n ≤ bs.length) :
    Calls Tryd.prog 71 #[.pointer (some ⟨B, 0, none⟩), .int .i64 (n : Int)] W (TakeP w0 W B bs n) := by
  obtain ⟨v, hb, hv⟩ := h.box
  have x0 := blkc hb 0
  have f0 := blkf hb 0
  rcases hv with ⟨rfl, a, c, rfl⟩ | ⟨b, off, c, rfl, hc, hlt, hB⟩
  · obtain rfl : n = 0 := by simpa using hle
    have HP : Hid (∀ a c, RdrAt w0 (W.setCell ⟨B, 0, none⟩ (.slice a 0 c)) B [] false ∧ RdFr B W (W.setCell ⟨B, 0, none⟩ (.slice a 0 c))) := fun a c => ⟨⟨h.old.setCell (p := ⟨B, 0, none⟩) h.new _, h.new, .slice a 0 c, (blk_setk hb 0 _).trans (by simp), Or.inl ⟨rfl, a, c, rfl⟩⟩, RdFr.set B 0 _ W⟩
    have hnz : ¬ ((0 : Nat) : Int) > (([] : List UInt8).length : Int) := by simp
    clear h hb
    go_enter Tryd.func71, Tryd.ntmps71
    go_wp2_with fail
    all_goals
      go_ret
      exact ⟨_, _, rfl, Or.inl rfl, HP.out _ _⟩
  · have hnz : ¬ (n : Int) > (bs.length : Int) := by omega
    have hnz2 : (n : Int) ≤ (bs.length : Int) := by omega
    have HP := hidd (h.cut hb hc hlt hB n (bs.length - n) (by omega))
    have HT : Hid (BytesAt w0 b off (bs.take n)) := fun t ht => by
      rw [List.length_take] at ht
      have := hB t (by omega)
      rw [this]
      simp [List.getD_eq_getElem?_getD, show t < n by omega]
    have HO := hidd h.old
    have hnew := h.new
    clear h hb hB
    go_enter Tryd.func71, Tryd.ntmps71
    go_wp2_with fail
    all_goals
      go_ret
      refine ⟨_, _, rfl, ?_, HP.out _ _ (by first | exact Or.inr ⟨rfl, rfl⟩ | (left; omega))⟩
      exact Or.inr ⟨b, off, rfl, HT.out.old (HO.out.setCell (p := ⟨B, 0, none⟩) hnew _) hlt⟩
set_option maxHeartbeats 1000000 in
theorem take_none {w0 W : World} {B n : Nat} {bs : List UInt8} (hn : bs.length ≤ 1048576) (hn2 : n ≤ 1048576) (h : RdrAt w0 W B bs false) (hle : ¬ n ≤ bs.length) :
    Calls Tryd.prog 71 #[.pointer (some ⟨B, 0, none⟩), .int .i64 (n : Int)] W fun e w' => e = .returned (.slice none 0 0) ∧ RdrAt w0 w' B [] true ∧ RdFr B W w' := by
  obtain ⟨v, hb, hv⟩ := h.box
  obtain ⟨a, c, rfl⟩ : ∃ a c, v = .slice a bs.length c := by
    rcases hv with ⟨rfl, a, c, e⟩ | ⟨b, off, c, e, _⟩
    · exact ⟨a, c, e⟩
    · exact ⟨_, c, e⟩
  have x0 := blkc hb 0
  have hnz : (n : Int) > (bs.length : Int) := by omega
  have HH := hidd h
  clear h hb hv
  go_enter Tryd.func71, Tryd.ntmps71
  go_wp2_with fail
  refine (stop_any HH.out).mono ?_
  rintro e w2 ⟨rfl, h2, h3⟩
  have HP := hidd (And.intro h2 h3)
  clear h2 h3
  go_wp2_with fail
  go_ret
  exact ⟨rfl, HP.out⟩
theorem rdT_some {bs t r : List UInt8} (h : rdT bs = some (t, r)) : ∃ n q, rdN 65536 bs = some (n, q) ∧ n ≤ q.length ∧ t = q.take n ∧ r = q.drop n := by
  unfold rdT at h
  cases hg : rdN 65536 bs with
  | none => rw [hg] at h; simp at h
  | some p =>
    obtain ⟨n, q⟩ := p
    rw [hg] at h
    simp only at h
    split at h
    · rename_i hle
      simp only [Option.some.injEq, Prod.mk.injEq] at h
      exact ⟨n, q, rfl, hle, h.1.symm, h.2.symm⟩
    · simp at h
theorem rdT_none {bs : List UInt8} (h : rdT bs = none) : rdN 65536 bs = none ∨ ∃ n q, rdN 65536 bs = some (n, q) ∧ ¬ n ≤ q.length := by
  unfold rdT at h
  cases hg : rdN 65536 bs with
  | none => exact Or.inl rfl
  | some p =>
    obtain ⟨n, q⟩ := p
    rw [hg] at h
    simp only at h
    split at h
    · simp at h
    · rename_i hle
      exact Or.inr ⟨n, q, rfl, hle⟩
end Go.Proofs.YtnekdkafhoacoaaDoor
