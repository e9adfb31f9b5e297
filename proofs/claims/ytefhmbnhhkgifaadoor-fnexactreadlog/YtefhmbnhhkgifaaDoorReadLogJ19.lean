import Derived.Test.YtefhmbnhhkgifaaDoorReadLogJ04
import Derived.Test.YtefhmbnhhkgifaaDoorReadLogJ18
import Derived.Deep.RegionHeld3
namespace Go.Proofs.YtefhmbnhhkgifaaDoor
open Go Go.RowKit
set_option linter.unusedVariables false
set_option linter.unusedSimpArgs false
set_option maxRecDepth 100000

/-- The document's own reader: r is what is left of bs, bd that something was wrong. -/
structure SpAt (w0 W : World) (B b off c : Nat) (bs r : List UInt8) (bd : Bool) : Prop where
  old : Below w0.heap.size w0 W
  new : w0.heap.size ≤ B
  blt : b < w0.heap.size
  byt : BytesAt w0 b off bs
  cap : bs.length ≤ c
  box : ∃ k : Nat, k ≤ bs.length ∧ r = bs.drop k ∧ W.heap[B]? = some (.cells #[.slice (some ⟨b, off, none⟩) bs.length c, .int .i64 (k : Int), .bool bd] 69)
theorem SpAt.keep {w0 W W' : World} {B b off c : Nat} {bs r : List UInt8} {bd : Bool} (h : SpAt w0 W B b off c bs r bd) (ho : Below w0.heap.size w0 W') (hk : W'.heap[B]? = W.heap[B]?) : SpAt w0 W' B b off c bs r bd := by
  obtain ⟨k, h1, h2, h3⟩ := h.box
  exact ⟨ho, h.new, h.blt, h.byt, h.cap, k, h1, h2, hk.trans h3⟩
theorem SpAt.lt {w0 W : World} {B b off c : Nat} {bs r : List UInt8} {bd : Bool} (h : SpAt w0 W B b off c bs r bd) : B < W.heap.size := by
  obtain ⟨k, h1, h2, h3⟩ := h.box
  exact (Array.getElem?_eq_some_iff.1 h3).1
theorem SpAt.below {w0 W W' : World} {B b off c : Nat} {bs r : List UInt8} {bd : Bool} (h : SpAt w0 W B b off c bs r bd) (hb : Below W.heap.size W W') : SpAt w0 W' B b off c bs r bd := h.keep (h.old.trans (hb.mono h.old.size)) (hb.block B h.lt)
theorem SpAt.drew {w0 W : World} {B b off c : Nat} {bs r : List UInt8} {bd : Bool} (h : SpAt w0 W B b off c bs r bd) : SpAt w0 W.drew B b off c bs r bd := h.below (below_drewN (Below.refl _ _) 1)
theorem SpAt.bad {w0 W : World} {B b off c : Nat} {bs r : List UInt8} {bd : Bool} (h : SpAt w0 W B b off c bs r bd) : SpAt w0 (W.setCell ⟨B, 2, none⟩ (.bool true)) B b off c bs r true ∧ RdFr B W (W.setCell ⟨B, 2, none⟩ (.bool true)) := by
  obtain ⟨k, h1, h2, h3⟩ := h.box
  exact ⟨⟨h.old.setCell (p := ⟨B, 2, none⟩) h.new _, h.new, h.blt, h.byt, h.cap, k, h1, h2, blk_setk h3 2 _⟩, RdFr.set B 2 _ W⟩
theorem SpAt.to {w0 W : World} {B b off c : Nat} {bs r r' : List UInt8} {bd : Bool} (h : SpAt w0 W B b off c bs r bd) {k : Nat} (hk : k ≤ bs.length) (hr : r' = bs.drop k) : SpAt w0 (W.setCell ⟨B, 1, none⟩ (.int .i64 (k : Int))) B b off c bs r' bd ∧ RdFr B W (W.setCell ⟨B, 1, none⟩ (.int .i64 (k : Int))) := by
  obtain ⟨k', h1, h2, h3⟩ := h.box
  exact ⟨⟨h.old.setCell (p := ⟨B, 1, none⟩) h.new _, h.new, h.blt, h.byt, h.cap, k, hk, hr, blk_setk h3 1 _⟩, RdFr.set B 1 _ W⟩
theorem RdFr.of {B : Nat} {W W' : World} (h : Below W.heap.size W W') : RdFr B W W' := ⟨h.size, fun b hb _ => h.block b hb⟩
/-- A number of any size. -/
def NumP (w0 W : World) (B b off c : Nat) (bs r : List UInt8) (e : Ending) (w' : World) : Prop :=
  RdFr B W w' ∧ ((getL r = none ∧ e = .returned (.int .i64 0) ∧ SpAt w0 w' B b off c bs r true) ∨ ∃ v s, getL r = some (v, s) ∧ e = .returned (.int .i64 (v : Int)) ∧ SpAt w0 w' B b off c bs (r.drop s) false)
set_option maxHeartbeats 1000000 in
theorem num_bad {w0 W : World} {B b off c : Nat} {bs r : List UInt8} (h : SpAt w0 W B b off c bs r true) :
    Calls Tryd.prog 57 #[.pointer (some ⟨B, 0, none⟩)] W fun e w' => e = .returned (.int .i64 0) ∧ w' = W := by
  obtain ⟨k, h1, h2, h3⟩ := h.box
  have x2 := blkc h3 2
  clear h h3
  go_enter Tryd.func57, Tryd.ntmps57
  go_wp2_with fail
  go_ret
  exact ⟨rfl, rfl⟩
set_option maxHeartbeats 2000000 in
theorem num_any {w0 W : World} {B b off c : Nat} {bs r : List UInt8} (hn : bs.length ≤ 1048576) (h : SpAt w0 W B b off c bs r false) :
    Calls Tryd.prog 57 #[.pointer (some ⟨B, 0, none⟩)] W (NumP w0 W B b off c bs r) := by
  obtain ⟨k, h1, h2, h3⟩ := h.box
  have x0 := blkc h3 0
  have x1 := blkc h3 1
  have x2 := blkc h3 2
  have HC : Hid (∀ W', Below W.heap.size W W' → Calls Tryd.prog 18 #[.slice (some ⟨b, off, none⟩) bs.length c, .int .i64 (k : Int)] W' fun e w' => (∃ m, w' = W'.drewN m) ∧
      ((getL r = none ∧ ∃ x y : Int, e = .returned (.tuple #[.int .i64 x, .int .i64 y, .bool false])) ∨ ∃ v s, getL r = some (v, s) ∧ e = .returned (.tuple #[.int .i64 (v : Int), .int .i64 ((k : Int) + (s : Int)), .bool true]))) := fun W' hW => by
    rw [h2]
    exact specGet_any b off c k bs W' hn h1 (h.byt.old (h.old.trans (hW.mono h.old.size)) h.blt)
  have HH := hidd h
  have H2 := hidd h2
  clear h h3 h2
  cases hg : getL r with
  | none =>
    have HC0 : Hid (Calls Tryd.prog 18 #[.slice (some ⟨b, off, none⟩) bs.length c, .int .i64 (k : Int)] W.drew fun e w' => ∃ x y : Int, e = .returned (.tuple #[.int .i64 x, .int .i64 y, .bool false]) ∧ Below W.heap.size W w') := (HC.out _ (below_drewN (Below.refl _ _) 1)).mono fun e w' ⟨⟨m, hm⟩, ho⟩ => by
      rcases ho with ⟨_, x, y, e1⟩ | ⟨v, s, q, _⟩
      · refine ⟨x, y, e1, ?_⟩
        rw [hm]
        exact below_drewN (below_drewN (Below.refl _ _) 1) m
      · rw [hg] at q; cases q
    clear HC
    go_enter Tryd.func57, Tryd.ntmps57
    go_wp2_with fail
    go_region_with (go_at_call 18; refine HC0.out.mono ?_; rintro e' w2 ⟨x, y, rfl, hb2⟩; obtain ⟨k2, j1, j2, j3⟩ := (HH.out.below hb2).box; have y2 := blkc j3 2; have yf := blkf j3 2)
    all_goals
      have HF : Hid (NumP w0 W B b off c bs r (.returned (.int .i64 0)) (w2.setCell ⟨B, 2, none⟩ (.bool true))) := ⟨(RdFr.of hb2).trans (HH.out.below hb2).bad.2, Or.inl ⟨hg, rfl, (HH.out.below hb2).bad.1⟩⟩
      clear hb2 j1 j2 j3 HH hg
      go_wp2_with fail
      go_ret
      exact HF.out
  | some p =>
    obtain ⟨v, s⟩ := p
    have hgl := getL_le hg
    have hrl : r.length = bs.length - k := by rw [H2.out, List.length_drop]
    have hvb := (getL_inv hg).2.1
    have HC0 : Hid (Calls Tryd.prog 18 #[.slice (some ⟨b, off, none⟩) bs.length c, .int .i64 (k : Int)] W.drew fun e w' => e = .returned (.tuple #[.int .i64 (v : Int), .int .i64 ((k + s : Nat) : Int), .bool true]) ∧ Below W.heap.size W w') := (HC.out _ (below_drewN (Below.refl _ _) 1)).mono fun e w' ⟨⟨m, hm⟩, ho⟩ => by
      rcases ho with ⟨q, _⟩ | ⟨v', s', q, e1⟩
      · rw [hg] at q; cases q
      · rw [hg] at q
        simp only [Option.some.injEq, Prod.mk.injEq] at q
        obtain ⟨rfl, rfl⟩ := q
        refine ⟨by rw [e1]; push_cast; rfl, ?_⟩
        rw [hm]
        exact below_drewN (below_drewN (Below.refl _ _) 1) m
    clear HC
    obtain ⟨ks, hks⟩ : ∃ ks, k + s = ks := ⟨_, rfl⟩
    rw [hks] at HC0
    have HR : Hid (r.drop s = bs.drop ks) := by show _ = _; rw [H2.out, List.drop_drop, hks]
    have hksl : ks ≤ bs.length := by omega
    go_enter Tryd.func57, Tryd.ntmps57
    go_wp2_with fail
    go_region_with (go_at_call 18; refine HC0.out.mono ?_; rintro e' w2 ⟨rfl, hb2⟩; obtain ⟨k2, j1, j2, j3⟩ := (HH.out.below hb2).box; have y2 := blkc j3 1; have yf := blkf j3 1)
    all_goals
      have HF : Hid (NumP w0 W B b off c bs r (.returned (.int .i64 (v : Int))) (w2.setCell ⟨B, 1, none⟩ (.int .i64 (ks : Int)))) := ⟨(RdFr.of hb2).trans ((HH.out.below hb2).to hksl HR.out).2, Or.inr ⟨v, s, hg, rfl, ((HH.out.below hb2).to hksl HR.out).1⟩⟩
      clear hb2 j1 j2 j3 HH hg hks hgl hrl
      go_wp2_with fail
      go_ret
      exact HF.out
set_option maxHeartbeats 1000000 in
theorem count_bad {w0 W : World} {B b off c : Nat} {bs r : List UInt8} (h : SpAt w0 W B b off c bs r true) :
    Calls Tryd.prog 47 #[.pointer (some ⟨B, 0, none⟩)] W fun e w' => e = .returned (.int .i64 0) ∧ w' = W := by
  have HN := hidd (num_bad h)
  clear h
  go_enter Tryd.func47, Tryd.ntmps47
  go_wp2_with fail
  refine HN.out.mono ?_
  rintro e w2 ⟨rfl, rfl⟩
  go_wp2_with fail
  go_ret
  exact ⟨rfl, rfl⟩
/-- A number up to most: its answer, or that something was wrong. -/
def CntP (w0 W : World) (B b off c : Nat) (bs r : List UInt8) (most : Nat) (g : Nat → Int) (e : Ending) (w' : World) : Prop :=
  RdFr B W w' ∧ ((rdN most r = none ∧ ∃ r', e = .returned (.int .i64 0) ∧ SpAt w0 w' B b off c bs r' true) ∨ ∃ v r', rdN most r = some (v, r') ∧ e = .returned (.int .i64 (g v)) ∧ SpAt w0 w' B b off c bs r' false)
theorem rdN_of {most v s : Nat} {r : List UInt8} (h : getL r = some (v, s)) : rdN most r = if v ≤ most then some (v, r.drop s) else none := by unfold rdN; rw [h]
theorem rdN_no {most : Nat} {r : List UInt8} (h : getL r = none) : rdN most r = none := by unfold rdN; rw [h]
set_option maxHeartbeats 1000000 in
theorem count_any {w0 W : World} {B b off c : Nat} {bs r : List UInt8} (hn : bs.length ≤ 1048576) (h : SpAt w0 W B b off c bs r false) :
    Calls Tryd.prog 47 #[.pointer (some ⟨B, 0, none⟩)] W (CntP w0 W B b off c bs r 4096 fun v => (v : Int)) := by
  have HN := hidd (num_any hn h)
  clear h
  go_enter Tryd.func47, Tryd.ntmps47
  go_wp2_with fail
  refine HN.out.mono ?_
  rintro e w2 ⟨hf, ⟨hg, rfl, h2⟩ | ⟨v, s, hg, rfl, h2⟩⟩
  · have HF : Hid (CntP w0 W B b off c bs r 4096 (fun v => (v : Int)) (.returned (.int .i64 0)) w2) := ⟨hf, Or.inl ⟨rdN_no hg, r, rfl, h2⟩⟩
    clear hf hg h2 HN
    go_wp2_with fail
    go_ret
    exact HF.out
  · have hvb := (getL_inv hg).2.1
    by_cases hle : v ≤ 4096
    · have hz : ¬ (v : Int) > 4096 := by omega
      have HF : Hid (CntP w0 W B b off c bs r 4096 (fun v => (v : Int)) (.returned (.int .i64 (v : Int))) w2) := ⟨hf, Or.inr ⟨v, r.drop s, by rw [rdN_of hg, if_pos hle], rfl, h2⟩⟩
      clear hf hg h2 HN
      go_wp2_with fail
      go_ret
      exact HF.out
    · have hz : (v : Int) > 4096 := by omega
      obtain ⟨k2, j1, j2, j3⟩ := h2.box
      have y2 := blkc j3 2
      have yf := blkf j3 2
      have HF : Hid (CntP w0 W B b off c bs r 4096 (fun v => (v : Int)) (.returned (.int .i64 0)) (w2.setCell ⟨B, 2, none⟩ (.bool true))) := ⟨hf.trans h2.bad.2, Or.inl ⟨by rw [rdN_of hg, if_neg hle], _, rfl, h2.bad.1⟩⟩
      clear hf hg h2 HN j1 j2 j3
      go_wp2_with fail
      go_ret
      exact HF.out
set_option maxHeartbeats 1000000 in
theorem numb_any {w0 W : World} {B b off c : Nat} {bs r : List UInt8} (hn : bs.length ≤ 1048576) (h : SpAt w0 W B b off c bs r false) :
    Calls Tryd.prog 48 #[.pointer (some ⟨B, 0, none⟩)] W (CntP w0 W B b off c bs r 2000000000000 sgn) := by
  have HN := hidd (num_any hn h)
  clear h
  go_enter Tryd.func48, Tryd.ntmps48
  go_wp2_with fail
  refine HN.out.mono ?_
  rintro e w2 ⟨hf, ⟨hg, rfl, h2⟩ | ⟨v, s, hg, rfl, h2⟩⟩
  · have HF : Hid (CntP w0 W B b off c bs r 2000000000000 sgn (.returned (.int .i64 0)) w2) := ⟨hf, Or.inl ⟨rdN_no hg, r, rfl, h2⟩⟩
    clear hf hg h2 HN
    go_wp2_with fail
    go_ret
    exact HF.out
  · have hvb := (getL_inv hg).2.1
    by_cases hle : v ≤ 2000000000000
    · have hz : ¬ (v : Int) > 2000000000000 := by omega
      have HF : Hid (CntP w0 W B b off c bs r 2000000000000 sgn (.returned (.int .i64 (sgn v))) w2) := ⟨hf, Or.inr ⟨v, r.drop s, by rw [rdN_of hg, if_pos hle], rfl, h2⟩⟩
      clear hf hg h2 HN
      by_cases h : v % 2 = 1
      · have HS : Hid (sgn v = -(((v : Int) + 1) / 2)) := by show _ = _; rw [sgn, if_pos h]; push_cast; rfl
        have hz1 : ((v : Int) % 2 == 1) = true := by simp; omega
        have hm : (v : Int).tmod 2 = 1 := by rw [Int.tmod_eq_emod_of_nonneg (by omega)]; omega
        have hd : (-((v : Int) + 1)).tdiv 2 = -((((v : Int) + 1)) / 2) := by rw [Int.neg_tdiv, Int.tdiv_eq_ediv_of_nonneg (by omega)]
        rw [HS.out] at HF
        go_wp2_with fail
        go_ret
        exact HF.out
      · have HS : Hid (sgn v = (v : Int) / 2) := by show _ = _; rw [sgn, if_neg h]; push_cast; rfl
        have hv0 : v % 2 = 0 := by omega
        have hz1 : ((v : Int) % 2 == 1) = false := by simp; omega
        have hm : (v : Int).tmod 2 = 0 := by rw [Int.tmod_eq_emod_of_nonneg (by omega)]; omega
        clear h
        rw [HS.out] at HF
        go_wp2_with fail
        go_ret
        exact HF.out
    · have hz : (v : Int) > 2000000000000 := by omega
      obtain ⟨k2, j1, j2, j3⟩ := h2.box
      have y2 := blkc j3 2
      have yf := blkf j3 2
      have HF : Hid (CntP w0 W B b off c bs r 2000000000000 sgn (.returned (.int .i64 0)) (w2.setCell ⟨B, 2, none⟩ (.bool true))) := ⟨hf.trans h2.bad.2, Or.inl ⟨by rw [rdN_of hg, if_neg hle], _, rfl, h2.bad.1⟩⟩
      clear hf hg h2 HN j1 j2 j3
      go_wp2_with fail
      go_ret
      exact HF.out
end Go.Proofs.YtefhmbnhhkgifaaDoor
