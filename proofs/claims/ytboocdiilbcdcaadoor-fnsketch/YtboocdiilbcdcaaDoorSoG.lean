import Derived.Test.YtboocdiilbcdcaaDoorSoF
import Derived.Test.YtboocdiilbcdcaaDoorSoS
import Derived.Test.YtboocdiilbcdcaaDoorSoD
import Derived.Test.YtboocdiilbcdcaaDoorSkK
import Derived.Test.YtboocdiilbcdcaaDoorSkC
import Derived.Test.YtboocdiilbcdcaaDoorSameI
namespace Go.Proofs.YtboocdiilbcdcaaDoor
open Go Go.RowKit
set_option linter.unusedVariables false
set_option linter.unusedSimpArgs false
set_option maxRecDepth 100000

/-! What laws.FnSketch wants besides. -/
theorem lenC : LenC := fun x w h0 h1 => Tryd.bits_Len64 x w h0 h1
theorem holdE {w : World} {base ty : Nat} {v : Value} {zs : List Int} (h : w.ownsRow base ty 1 v zs.length (zI zs)) : HoldI w v zs := by
  rcases own_cases h with ⟨rfl, h0⟩ | ⟨g, cap, rfl, _, hg⟩
  · exact ⟨none, 0, by rw [h0], Or.inl (List.length_eq_zero_iff.1 h0)⟩
  · exact ⟨_, cap, rfl, Or.inr ⟨g, 0, rfl, hg, own_cells h rfl⟩⟩
theorem below_drew {w : World} (m : Nat) : Below w.heap.size w (w.drewN m) := below_drewN (Below.refl _ _) m
/-- Two rows of the same numbers. -/
theorem sameI_hold (ad1 ad2 : Option Addr) (n c1 c2 : Nat) (zs : List Int) (w : World) (hl : zs.length = n) (hn : n ≤ 1048576) (h1 : HoldI w (.slice ad1 n c1) zs) (h2 : HoldI w (.slice ad2 n c2) zs) :
    Calls Tryd.prog 8 #[.slice ad1 n c1, .slice ad2 n c2] w fun e w' => e = .returned (.bool true) ∧ Below w.heap.size w w' := by
  subst hl
  by_cases h0 : zs.length = 0
  · rw [h0]
    exact (sameInts_zero ad1 ad2 c1 c2 w).mono fun e w' ⟨h, k⟩ => ⟨h, by rw [k]; exact Below.refl _ _⟩
  · obtain ⟨g1, o1, rfl, _, _⟩ := h1.cells (i := 0) (by omega)
    obtain ⟨g2, o2, rfl, _, _⟩ := h2.cells (i := 0) (by omega)
    refine (sameInts_same g1 o1 c1 g2 o2 c2 zs.length zs w hn (fun t ht => ?_) (fun t ht => ?_)).mono fun e w' ⟨h, m, k⟩ => ⟨h, by rw [k]; exact below_drew m⟩
    · obtain ⟨g, o, e, _, h⟩ := h1.cells (i := t) ht
      cases e; exact h
    · obtain ⟨g, o, e, _, h⟩ := h2.cells (i := t) ht
      cases e; exact h
/-- A sketch told. -/
def SkQ (V : World) (zs : List Int) (code : Int) (e : Ending) (w' : World) : Prop :=
  ∃ ad n cp, e = .returned (.tuple #[.agg #[.slice ad n cp], .int .i64 code]) ∧ Hid (zs.length = n) ∧ HoldI w' (.slice ad n cp) zs ∧ Below V.heap.size V w'
theorem SkR.q {V : World} {J : List Int × Int} {e : Ending} {w' : World} (h : SkR V J e w') : SkQ V J.1 J.2 e w' := by
  obtain ⟨ty, v, _, h1, h2, h3⟩ := h
  have hh := holdE h2
  obtain ⟨ad, cp, rfl, _⟩ := hh
  exact ⟨ad, _, cp, h1, hidd rfl, holdE h2, h3⟩
structure SBx (W : World) (B : Nat) (ad : Option Addr) (n cp : Nat) (zs : List Int) : Prop where
  box : W.heap[B]? = some (.cells #[.slice ad n cp] 27)
  row : HoldI W (.slice ad n cp) zs
theorem SBx.below {W W' : World} {B : Nat} {ad : Option Addr} {n cp : Nat} {zs : List Int} (h : SBx W B ad n cp zs) (hb : Below W.heap.size W W') : SBx W' B ad n cp zs := ⟨blko h.box hb, h.row.below hb⟩
theorem tmAt_own {w : World} {base g cp : Nat} {ts : List Tx} (h : w.ownsRow base 9 1 (.slice (some ⟨g, 0, none⟩) ts.length cp) ts.length (mkT ts)) : TmAt w (some ⟨g, 0, none⟩) ts := by
  exact Or.inr ⟨g, 0, rfl, own_lt h, fun j hj => by rw [Nat.zero_add, h.cellAt j (by omega)]; simp [mkT, hj]⟩
/-- A slice of texts that may be cut. -/
def SzT (w : World) (v : Value) (ts : List Tx) : Prop := ∃ ad cap, v = .slice ad ts.length cap ∧ ts.length ≤ cap ∧ TmAt w ad ts
theorem SzT.below {w w' : World} {v : Value} {ts : List Tx} (h : SzT w v ts) (hb : Below w.heap.size w w') : SzT w' v ts := by
  obtain ⟨ad, cap, h1, h2, h3⟩ := h
  exact ⟨ad, cap, h1, h2, h3.below hb⟩
section
variable {ops : Array Oper} {rest : List Oper} {o : Oper} {a : Act} {w : World} {Q : Exit → Act → World → Prop}
set_option maxRecDepth 1000000 in
theorem wpTx_to {w0 : World} (hgd : o.guard = none) (x y : Operand) (ho : o.op = .slice 23 x none (some y) none) (v : Value) (ts : List Tx) (n : Nat) (hx : a.eval x = v) (hy : a.eval y = .int .i64 (n : Int)) (hst : SzT w0 v ts) (hs : n ≤ ts.length) (hl : ts.length ≤ 1048576)
    (h : ∀ ad cp, TmAt w0 ad (ts.take n) → wpList Tryd.prog ops Q rest (a.put o.dst (.slice ad n cp)) w) : wpList Tryd.prog ops Q (o :: rest) a w := by
  obtain ⟨s, cap, rfl, hcap, hT⟩ := hst
  have hr := run_slice_h (P := Tryd.prog) w 23 s ts.length cap Tryd.underlying23 .i64 (n : Int) (by omega) (by omega)
  have hsz : (sizeOf (Tryd.prog.elem 23)).run Tryd.prog w = .ok 1 w := Tryd.sizeOf9 w
  rw [hsz] at hr
  simp only [Result.andThen_ok, Int.toNat_natCast, sliced, Nat.mul_one] at hr
  have hrr := run_sliceAt_slice (P := Tryd.prog) w 23 (.slice s ts.length cap) none (some (.int .i64 (n : Int))) none Tryd.underlying23
  refine wpList_plain hgd fun K hK => ?_
  unfold Oper.wp execOp
  simp only [ho, Option.map_some, Option.map_none, hx, hy, Sem.run_bind, Sem.run_pure, Result.andThen_ok, hrr, hr]
  have htl : (ts.take n).length = n := by rw [List.length_take]; omega
  have hh := h s cap (by
    rcases hT with h0 | ⟨g, off, h1, h2, h3⟩
    · exact Or.inl (by rw [h0]; simp)
    · refine Or.inr ⟨g, off, h1, h2, fun t ht => ?_⟩
      rw [htl] at ht
      rw [h3 t (by omega), List.getD_eq_getElem?_getD, List.getD_eq_getElem?_getD, List.getElem?_take, if_pos (by omega)])
  refine hK _ _ ?_
  rcases s with _ | s
  · simpa using hh
  · simpa [Addr.add] using hh
set_option maxRecDepth 1000000 in
theorem wpTx_from {w0 : World} (hgd : o.guard = none) (x y : Operand) (ho : o.op = .slice 23 x (some y) none none) (v : Value) (ts : List Tx) (n R : Nat) (hx : a.eval x = v) (hy : a.eval y = .int .i64 (n : Int)) (hst : SzT w0 v ts) (hs : n + R = ts.length) (hR : 1 ≤ R) (hl : ts.length ≤ 1048576)
    (h : ∀ ad cp, TmAt w0 ad (ts.drop n) → wpList Tryd.prog ops Q rest (a.put o.dst (.slice ad R cp)) w) : wpList Tryd.prog ops Q (o :: rest) a w := by
  obtain ⟨s, cap, rfl, hcap, hT⟩ := hst
  obtain ⟨g, off, rfl, hgl, hc⟩ := hT.resolve_left (fun e => by rw [e] at hs; simp at hs; omega)
  have hr := run_slice_l (P := Tryd.prog) w 23 (some ⟨g, off, none⟩) ts.length cap Tryd.underlying23 .i64 (n : Int) (by omega) (by omega)
  have hsz : (sizeOf (Tryd.prog.elem 23)).run Tryd.prog w = .ok 1 w := Tryd.sizeOf9 w
  rw [hsz] at hr
  simp only [Result.andThen_ok, Int.toNat_natCast, sliced, Nat.mul_one] at hr
  have hrr := run_sliceAt_slice (P := Tryd.prog) w 23 (.slice (some ⟨g, off, none⟩) ts.length cap) (some (.int .i64 (n : Int))) none none Tryd.underlying23
  refine wpList_plain hgd fun K hK => ?_
  unfold Oper.wp execOp
  simp only [ho, Option.map_some, Option.map_none, hx, hy, Sem.run_bind, Sem.run_pure, Result.andThen_ok, hrr, hr]
  have hRe : ts.length - n = R := by omega
  have hh := h (some ⟨g, off + n, none⟩) (cap - n) (Or.inr ⟨g, off + n, rfl, hgl, fun t ht => by
      rw [List.length_drop] at ht
      rw [Nat.add_assoc, hc (n + t) (by omega), List.getD_eq_getElem?_getD, List.getD_eq_getElem?_getD, List.getElem?_drop]⟩)
  refine hK _ _ ?_
  rw [if_neg (by omega), hRe]
  have e0 : (if n = 0 then (⟨g, off, none⟩ : Addr) else ⟨g, off + n, none⟩) = ⟨g, off + n, none⟩ := by split <;> simp_all
  simpa [Addr.add, e0] using hh
end
theorem drop_back (ts : List Tx) (k : Nat) (h : k < ts.length) : (ts.drop (k + 1)).reverse ++ [ts.getD k []] = (ts.drop k).reverse := by
  rw [List.drop_eq_getElem_cons h, List.reverse_cons]
  simp [List.getD_eq_getElem?_getD, h]
theorem cntR_nn {zs : List Int} (h : SkOK zs) : 0 ≤ cntR zs := by
  unfold cntR
  split
  · rename_i h0
    have hz := zc_le zs 256 (by rw [h.1]; exact Nat.le_refl _)
    obtain ⟨L, D, R, a1, a2, a3, a4, a5, a6⟩ := cnt_nums (zc zs 256) h0 hz
    rw [a1, a3, a5]; omega
  · exact Int.ediv_nonneg (by omega) (by omega)
theorem skC_ok {zs : List Int} (h : SkOK zs) : ∃ N : Int, skC zs = (N, 0) ∧ 0 ≤ N := ⟨cntR zs, by unfold skC; rw [if_pos (bOf_t h)], cntR_nn h⟩
theorem mem_of_take {ts : List Tx} {H : Nat} : ∀ t ∈ ts.take H, t ∈ ts := fun t h => List.mem_of_mem_take h
theorem mem_of_drop {ts : List Tx} {H : Nat} : ∀ t ∈ ts.drop H, t ∈ ts := fun t h => List.mem_of_mem_drop h
end Go.Proofs.YtboocdiilbcdcaaDoor
