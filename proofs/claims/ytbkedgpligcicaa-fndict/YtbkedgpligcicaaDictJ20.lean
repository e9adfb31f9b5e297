import Derived.Test.YtbkedgpligcicaaDictJ19
import Derived.Test.YtbkedgpligcicaaDictJ02
import Derived.Test.YtbkedgpligcicaaDictJ18
import Derived.Test.YtbkedgpligcicaaDictJ14
import Derived.Test.YtbkedgpligcicaaDictJ13
import Derived.Deep.RegionLaw
import Derived.Deep.RegionWith
import Derived.Deep.AppendLies
import Derived.Deep.DeepCutAuto
import Derived.Deep.CutBlock
import Derived.ChangeKeysEq
import Derived.OrdersHeld
namespace Go.Proofs.Ytbkedgpligcicaa
open Go Go.RowKit
set_option linter.unusedVariables false
set_option maxRecDepth 100000

/-! spec's reader of states, between two states and between two arcs. -/
structure PoAt (w W : World) (hi : Nat) (v : Value) (S : List St) (xs : List Value) : Prop where
  old : Below w.heap.size w W
  res : W.heap[w.heap.size]? = some (.cells #[.int .i64 0, .slice none 0 0] 27)
  dbx : W.heap[w.heap.size + 1]? = some (.cells #[.int .i64 0, v] 27)
  sts : StsAt W (w.heap.size + 2) hi v S xs
theorem PoAt.keep {w W W' : World} {hi : Nat} {v : Value} {S : List St} {xs : List Value} (h : PoAt w W hi v S xs) (hs : Below w.heap.size W W') (h0 : W'.heap[w.heap.size]? = W.heap[w.heap.size]?) (h1 : W'.heap[w.heap.size + 1]? = W.heap[w.heap.size + 1]?) (hk : ∀ b, w.heap.size + 2 ≤ b → b < hi → W'.heap[b]? = W.heap[b]?) : PoAt w W' hi v S xs :=
  ⟨h.old.trans hs, h0.trans h.res, h1.trans h.dbx, h.sts.keep hs.size hk⟩
theorem PoAt.below {w W W' : World} {hi : Nat} {v : Value} {S : List St} {xs : List Value} (h : PoAt w W hi v S xs) (hb : Below W.heap.size W W') : PoAt w W' hi v S xs :=
  h.keep (hb.mono h.old.size) (hb.block _ (Array.getElem?_eq_some_iff.1 h.res).1) (hb.block _ (Array.getElem?_eq_some_iff.1 h.dbx).1) (fun b _ h2 => hb.block b (Nat.lt_of_lt_of_le h2 h.sts.le))
structure PiAt (w W : World) (hi : Nat) (v : Value) (S : List St) (xs : List Value) (B : Nat) (f : Bool) (va : Value) (l : List Ar) : Prop where
  out : PoAt w W hi v S xs
  hiB : hi ≤ B
  lt : w.heap.size + 2 ≤ B
  box : W.heap[B]? = some (.cells #[.bool f, va] 82)
  row : W.ownsRow (B + 1) 85 3 va l.length (aC l)
theorem PiAt.below {w W W' : World} {hi : Nat} {v : Value} {S : List St} {xs : List Value} {B : Nat} {f : Bool} {va : Value} {l : List Ar} (h : PiAt w W hi v S xs B f va l) (hb : Below W.heap.size W W') : PiAt w W' hi v S xs B f va l :=
  ⟨h.out.below hb, h.hiB, h.lt, blko h.box hb, own_congr h.row fun b hb' => hb.block b (h.row.lt b hb').2⟩
theorem PiAt.push {w W V w6 : World} {hi : Nat} {v : Value} {S : List St} {xs : List Value} {B : Nat} {f : Bool} {va : Value} {l : List Ar} {p : Ar} {g6 cp6 : Nat} (h : PiAt w W hi v S xs B f va l) (hV : Below W.heap.size W V)
    (hown : w6.ownsRow (B + 1) 85 3 (.slice (some ⟨g6, 0, none⟩) (l.length + 1) cp6) (l.length + 1) (aC l ++ [.int .i64 p.1, .int .i64 p.2.1, .int .i64 p.2.2])) (hg : V.grownBy w6 va.ownBlock) (hat : va.ownBlock = some g6 ∨ g6 = V.heap.size) :
    w6.heap[B]? = some (.cells #[.bool f, va] 82) ∧ PiAt w (w6.setCell ⟨B, 1, none⟩ (.slice (some ⟨g6, 0, none⟩) (l.length + 1) cp6)) hi v S xs B f (.slice (some ⟨g6, 0, none⟩) (l.length + 1) cp6) (l ++ [p]) := by
  have hBl := (Array.getElem?_eq_some_iff.1 h.box).1
  have hVs := hV.size
  have hva : ∀ b, va.ownBlock = some b → B + 1 ≤ b := fun b hb => (own_blk h.row hb).1
  have hk : ∀ b, b ≤ B → w6.heap[b]? = W.heap[b]? := fun b hb => by
    rw [hg.block b (by omega) (fun e => by have := hva b e.symm; omega), hV.block b (by omega)]
  have hbox : w6.heap[B]? = some (.cells #[.bool f, va] 82) := (hk B (Nat.le_refl _)).trans h.box
  have hg6 : g6 ≠ B := by
    rcases hat with e | e
    · have := hva g6 e; omega
    · omega
  have hlt := h.lt
  have hb6 : Below w.heap.size W w6 := ⟨by rw [hg.os, hV.os], by rw [hg.tape, hV.tape], by rw [hg.output, hV.output], Nat.le_trans hV.size hg.size, fun b hb => hk b (by omega)⟩
  refine ⟨hbox, ?_, h.hiB, h.lt, blk_setk hbox 1 _, ?_⟩
  · refine h.out.keep (hb6.setCell (p := ⟨B, 1, none⟩) (by dsimp only; omega) _) ?_ ?_ fun b h1 h2 => ?_
    · rw [heap_set_other w6 B 1 _ _ (by omega)]; exact hk _ (by omega)
    · rw [heap_set_other w6 B 1 _ _ (by omega)]; exact hk _ (by omega)
    · have := h.hiB
      rw [heap_set_other w6 B 1 _ _ (by omega)]; exact hk _ (by omega)
  · rw [List.length_append, aC_snoc]
    exact own_congr hown fun b hb => heap_set_other w6 B 1 _ b (by cases hb; exact hg6)
theorem PiAt.next {w W V w6 : World} {hi : Nat} {v : Value} {S : List St} {xs : List Value} {B : Nat} {f : Bool} {va : Value} {l : List Ar} {g6 cp6 : Nat} (h : PiAt w W hi v S xs B f va l) (hV : Below W.heap.size W V)
    (hown : w6.ownsRow (w.heap.size + 2) 82 2 (.slice (some ⟨g6, 0, none⟩) (S.length + 1) cp6) (S.length + 1) (xs ++ [.bool f, va])) (hg : V.grownBy w6 v.ownBlock) (hat : v.ownBlock = some g6 ∨ g6 = V.heap.size) :
    w6.heap[w.heap.size + 1]? = some (.cells #[.int .i64 0, v] 27) ∧ PoAt w (w6.setCell ⟨w.heap.size + 1, 1, none⟩ (.slice (some ⟨g6, 0, none⟩) (S.length + 1) cp6)) w6.heap.size (.slice (some ⟨g6, 0, none⟩) (S.length + 1) cp6) (S ++ [(f, l)]) (xs ++ [.bool f, va]) := by
  have hdl := (Array.getElem?_eq_some_iff.1 h.out.dbx).1
  have hVs := hV.size
  have hlt := h.lt
  have hv : ∀ b, v.ownBlock = some b → w.heap.size + 2 ≤ b := fun b hb => (own_blk h.out.sts.row hb).1
  have hk : ∀ b, b < w.heap.size + 2 → w6.heap[b]? = W.heap[b]? := fun b hb => by
    rw [hg.block b (by omega) (fun e => by have := hv b e.symm; omega), hV.block b (by omega)]
  have hbox := (hk (w.heap.size + 1) (by omega)).trans h.out.dbx
  have hb6 : Below w.heap.size W w6 := ⟨by rw [hg.os, hV.os], by rw [hg.tape, hV.tape], by rw [hg.output, hV.output], Nat.le_trans hV.size hg.size, fun b hb => hk b (by omega)⟩
  have hst := h.out.sts.push (f := f) (l := l) (by omega) h.row hV hown hg
  refine ⟨hbox, h.out.old.trans (hb6.setCell (p := ⟨w.heap.size + 1, 1, none⟩) (by dsimp only; omega) _), ?_, blk_setk hbox 1 _, hst.keep (by simp) fun b h1 h2 => heap_set_other w6 (w.heap.size + 1) 1 _ b (by omega)⟩
  rw [heap_set_other w6 (w.heap.size + 1) 1 _ _ (by omega)]
  exact (hk _ (by omega)).trans h.out.res
theorem vOn {wb V w6 : World} {row : Option Nat} (h : V.grownBy w6 row) (hb : Below wb.heap.size wb V) : Hid (Below wb.heap.size wb V) := hidd hb
/-- What was read so far, and what is left. -/
def rdO (S : List St) (o : Option (List St × List UInt8)) : Option (List St × List UInt8) := o.map fun q => (S ++ q.1, q.2)
def rdA (l : List Ar) (o : Option (List Ar × List UInt8)) : Option (List Ar × List UInt8) := o.map fun q => (l ++ q.1, q.2)
theorem rdO_nil (o : Option (List St × List UInt8)) : rdO [] o = o := by cases o <;> simp [rdO]
theorem rdA_nil (o : Option (List Ar × List UInt8)) : rdA [] o = o := by cases o <;> simp [rdA]
theorem rdSts_step {n k : Nat} {S : List St} {bs : List UInt8} {s : St} {r : List UInt8} (h : rdSt n bs = some (s, r)) : rdO S (rdSts n (k + 1) bs) = rdO (S ++ [s]) (rdSts n k r) := by
  rw [rdSts, h, Option.bind_some]
  cases rdSts n k r <;> simp [rdO]
theorem rdSts_stop {n k : Nat} {S : List St} {bs : List UInt8} (h : rdSt n bs = none) : rdO S (rdSts n (k + 1) bs) = none := by
  rw [rdSts, h]; rfl
theorem rdArcs_step {n k : Nat} {l : List Ar} {b : UInt8} {bs : List UInt8} {v s : Nat} (h : getL bs = some (v, s)) (hv : v < n) : rdA l (rdArcs n (k + 1) (b :: bs)) = rdA (l ++ [((b.toNat : Int), (v : Int), 0)]) (rdArcs n k (bs.drop s)) := by
  rw [rdArcs, h, Option.bind_some, if_pos hv]
  cases rdArcs n k (bs.drop s) <;> simp [rdA]
theorem rdArcs_bad {n k : Nat} {l : List Ar} {b : UInt8} {bs : List UInt8} (h : ∀ v s, getL bs = some (v, s) → ¬ v < n) : rdA l (rdArcs n (k + 1) (b :: bs)) = none := by
  rw [rdArcs]
  cases hg : getL bs with
  | none => rfl
  | some p => rw [Option.bind_some, if_neg (h p.1 p.2 hg)]; rfl
theorem rdSt_bad {n : Nat} {bs : List UInt8} (h : ∀ v s, getL bs = some (v, s) → ¬ v ≤ 513) : rdSt n bs = none := by
  unfold rdSt
  cases hg : getL bs with
  | none => rfl
  | some p => rw [Option.bind_some, if_neg (h p.1 p.2 hg)]
theorem rdSt_arcs {n : Nat} {bs : List UInt8} {v s : Nat} (h : getL bs = some (v, s)) (hv : v ≤ 513) : rdSt n bs = (rdArcs n (v / 2) (bs.drop s)).map fun q => ((v % 2 == 1, q.1), q.2) := by
  unfold rdSt
  rw [h, Option.bind_some, if_pos hv]
theorem getL_fit {bs : List UInt8} {v s : Nat} (h : getL bs = some (v, s)) : s ≤ bs.length ∧ v < 4611686018427387904 := by
  obtain ⟨h1, h2, h3⟩ := getL_inv h
  have := congrArg List.length h1
  rw [List.length_take, ← h3] at this
  exact ⟨by omega, h2⟩
end Go.Proofs.Ytbkedgpligcicaa

namespace Go.Proofs.Ytbkedgpligcicaa
open Go Go.RowKit
set_option linter.unusedVariables false
set_option linter.unusedSimpArgs false
set_option maxRecDepth 100000

/-! The operations of one region of impl.DictBytes, by hand. -/
theorem dbx_field0 (W : World) (ρ : Operand → Value) (o : Oper) (x : Operand) (ho : o.op = .fieldAddr 85 x 0) (b : Nat) (hx : ρ x = .pointer (some ⟨b, 0, none⟩)) : (execOp ρ o).run Try.prog W = .ok (.value (.pointer (some ⟨b, 0, none⟩))) W := by
  unfold execOp
  simp only [ho, hx, Sem.run_bind, Sem.run_pure, Result.andThen_ok]
  go_simp
theorem dbx_field1 (W : World) (ρ : Operand → Value) (o : Oper) (x : Operand) (ho : o.op = .fieldAddr 85 x 1) (b : Nat) (hx : ρ x = .pointer (some ⟨b, 0, none⟩)) : (execOp ρ o).run Try.prog W = .ok (.value (.pointer (some ⟨b, 1, none⟩))) W := by
  unfold execOp
  simp only [ho, hx, Sem.run_bind, Sem.run_pure, Result.andThen_ok]
  go_simp
theorem dbx_loadI (W : World) (ρ : Operand → Value) (o : Oper) (x : Operand) (ho : o.op = .load 3 x) (b off : Nat) (n : Int) (hx : ρ x = .pointer (some ⟨b, off, none⟩)) (h0 : W.cell? ⟨b, off, none⟩ = some (.int .i64 n)) : (execOp ρ o).run Try.prog W = .ok (.value (.int .i64 n)) W := by
  unfold execOp
  simp only [ho, Instr.loadAt, Instr.sureAddr, hx, Sem.run_bind, Sem.run_pure, Result.andThen_ok]
  go_simp
theorem dbx_conv (W : World) (ρ : Operand → Value) (o : Oper) (x : Operand) (ho : o.op = .convert 3 5 x) (n : Int) (hw : IntKind.u8.wrap n = n) (hx : ρ x = .int .i64 n) : (execOp ρ o).run Try.prog W = .ok (.value (.int .u8 n)) W := by
  unfold execOp
  simp only [ho, hx, Sem.run_bind, Sem.run_pure, Result.andThen_ok]
  go_simp
theorem dbx_build (W : World) (ρ : Operand → Value) (o : Oper) (x : Operand) (ho : o.op = .buildSlice 22 1 #[(0, x)]) (n : Int) (hx : ρ x = .int .u8 n) :
    (execOp ρ o).run Try.prog W = .ok (.value (.slice (some ⟨W.heap.size, 0, none⟩) 1 1)) (W.alloc (.cells #[.int .u8 n] 5)) := by
  unfold execOp
  simp only [ho, hx, Sem.run_bind, Sem.run_pure, Result.andThen_ok]
  go_simp
theorem dbx_assign (W : World) (ρ : Operand → Value) (o : Oper) (x : Operand) (ho : o.op = .assign x) (v : Value) (hx : ρ x = v) : (execOp ρ o).run Try.prog W = .ok (.value v) W := by
  unfold execOp
  simp only [ho, Sem.run_pure, hx]
theorem dbx_call2 (W : World) (a : Act) (o : Oper) (f : FuncId) (x y : Operand) (t u : TypeId) (ho : o.op = .call { callee := .value (.func f), args := #[x, y], argTypes := #[t, u] }) (v z : Value) (hx : a.eval x = v) (hy : a.eval y = z)
    (hf : (callFunc f #[v, z]).run Try.prog W = .ok (.enter f #[v, z]) W) : (execOp a.eval o).run Try.prog W = .ok (.enter f #[v, z]) W := by
  have hfn : a.eval (.func f) = .func (.func f) #[] #[] := rfl
  unfold execOp
  simp [ho, resolve, invoke, Deferred.ofValue, hfn, hx, hy, hf]
section
variable {ops : Array Oper} {Q : Exit → Act → World → Prop} {K : Act → World → Prop} {a : Act} {w : World}
theorem mkOp_call {i : Nat} {o : Oper} (f : FuncId) (args : Array Value) (hi : ops[i]? = some o) (hw : Region.wanted o (yielded ops a.tmps) = true) (ho : (execOp a.eval o).run Try.prog w = .ok (.enter f args) w)
    (h : Calls Try.prog f args w fun e w' => match e, w' with
      | .returned v, w'' => K (a.put o.dst v) w''
      | .panicked c, w'' => Q (.panic c) a w''
      | .outgrown, _ => LetsOut Q) : wpOp Try.prog ops Q i K a w := by
  unfold wpOp
  simp only [hi, hw, if_true, Oper.wp, ho, Oper.upon]
  exact .inl h
end
end Go.Proofs.Ytbkedgpligcicaa

namespace Go.Proofs.Ytbkedgpligcicaa
open Go Go.RowKit
set_option linter.unusedVariables false
set_option maxRecDepth 100000

/-! The program's reader: one state. -/
theorem nextR_len (bs : List UInt8) (sh : Bool) : (nextR bs sh).2.1.length ≤ bs.length := by cases bs <;> simp [nextR]
theorem numR_len (n : Nat) (bs : List UInt8) (sh : Bool) : (numR n bs sh).2.1.length ≤ bs.length := by
  rw [numR]
  split
  · simp
  · split <;> simp
theorem numR_val (n : Nat) (bs : List UInt8) (sh : Bool) : ∃ v : Nat, (numR n bs sh).1 = (v : Int) ∧ v ≤ n := by
  rw [numR]
  split
  · exact ⟨0, rfl, Nat.zero_le _⟩
  · rename_i v s _
    split
    · rename_i h; exact ⟨v, rfl, h⟩
    · exact ⟨0, rfl, Nat.zero_le _⟩
theorem nextR_val (bs : List UInt8) (sh : Bool) : ∃ v : Nat, (nextR bs sh).1 = (v : Int) ∧ v ≤ 255 := by
  cases bs with
  | nil => exact ⟨0, rfl, by omega⟩
  | cons x r => exact ⟨x.toNat, rfl, by have := UInt8.toNat_lt x; omega⟩
theorem stepA_len (p : List Ar × List UInt8 × Bool) : (stepA p).2.1.length ≤ p.2.1.length := Nat.le_trans (numR_len _ _ _) (nextR_len _ _)
theorem arcsN_len : ∀ (k : Nat) (p : List Ar × List UInt8 × Bool), (arcsN k p).2.1.length ≤ p.2.1.length
  | 0, p => Nat.le_refl _
  | k + 1, p => by rw [arcsN_succ]; exact Nat.le_trans (stepA_len _) (arcsN_len k p)
theorem arcsN_num : ∀ (k : Nat) (p : List Ar × List UInt8 × Bool), (arcsN k p).1.length = p.1.length + k
  | 0, p => rfl
  | k + 1, p => by rw [arcsN_succ, stepA, List.length_append, arcsN_num k p]; simp; omega
theorem stateR_len (bs : List UInt8) (sh : Bool) : (stateR bs sh).2.1.length ≤ bs.length := Nat.le_trans (arcsN_len _ _) (numR_len _ _ _)
theorem RdrAt.keep {w0 W W' : World} {B : Nat} {bs : List UInt8} {sh : Bool} (h : RdrAt w0 W B bs sh) (ho : Below w0.heap.size w0 W') (hk : W'.heap[B]? = W.heap[B]?) : RdrAt w0 W' B bs sh := by
  obtain ⟨v, hb, hv⟩ := h.box
  exact ⟨ho, h.new, v, hk.trans hb, hv⟩
theorem RdrAt.lt {w0 W : World} {B : Nat} {bs : List UInt8} {sh : Bool} (h : RdrAt w0 W B bs sh) : B < W.heap.size := by
  obtain ⟨v, hb, _⟩ := h.box
  exact (Array.getElem?_eq_some_iff.1 hb).1
theorem RdrAt.below {w0 W W' : World} {B : Nat} {bs : List UInt8} {sh : Bool} (h : RdrAt w0 W B bs sh) (hb : Below W.heap.size W W') : RdrAt w0 W' B bs sh := h.keep (h.old.trans (hb.mono h.old.size)) (hb.block B h.lt)
/-- The reader, the box of the result, the box of the state. -/
structure SrAt (w0 W0 W : World) (B B0 B1 : Nat) (f : Bool) (va : Value) (p : List Ar × List UInt8 × Bool) : Prop where
  rdr : RdrAt w0 W B p.2.1 p.2.2
  b0 : B < B0
  b1 : B0 < B1
  res : W.heap[B0]? = some (.cells #[.bool false, .slice none 0 0] 82)
  box : W.heap[B1]? = some (.cells #[.bool f, va] 82)
  row : W.ownsRow (B1 + 1) 85 3 va p.1.length (aC p.1)
  fr : ∀ b, b < B0 → b ≠ B → W.heap[b]? = W0.heap[b]?
theorem SrAt.call {w0 W0 W W' : World} {B B0 B1 : Nat} {f : Bool} {va : Value} {p : List Ar × List UInt8 × Bool} {bs' : List UInt8} {sh' : Bool} (h : SrAt w0 W0 W B B0 B1 f va p) (hr : RdrAt w0 W' B bs' sh') (hf : RdFr B W W') : SrAt w0 W0 W' B B0 B1 f va (p.1, bs', sh') := by
  have h1 := (Array.getElem?_eq_some_iff.1 h.box).1
  have hb0 := h.b0
  have hb1 := h.b1
  refine ⟨hr, h.b0, h.b1, (hf.2 _ (by omega) (by omega)).trans h.res, (hf.2 _ h1 (by omega)).trans h.box, own_congr h.row fun b hb => ?_, fun b hb hne => (hf.2 b (by omega) hne).trans (h.fr b hb hne)⟩
  obtain ⟨q1, q2⟩ := h.row.lt b hb
  exact hf.2 b q2 (by omega)
theorem SrAt.below {w0 W0 W W' : World} {B B0 B1 : Nat} {f : Bool} {va : Value} {p : List Ar × List UInt8 × Bool} (h : SrAt w0 W0 W B B0 B1 f va p) (hb : Below W.heap.size W W') : SrAt w0 W0 W' B B0 B1 f va p :=
  h.call (h.rdr.below hb) ⟨hb.size, fun b hl _ => hb.block b hl⟩
theorem SrAt.push {w0 W0 W V w6 : World} {B B0 B1 g6 cp6 : Nat} {f : Bool} {va : Value} {p : List Ar × List UInt8 × Bool} {q : Ar} (h : SrAt w0 W0 W B B0 B1 f va p) (hV : Below W.heap.size W V)
    (hown : w6.ownsRow (B1 + 1) 85 3 (.slice (some ⟨g6, 0, none⟩) (p.1.length + 1) cp6) (p.1.length + 1) (aC p.1 ++ [.int .i64 q.1, .int .i64 q.2.1, .int .i64 q.2.2])) (hg : V.grownBy w6 va.ownBlock) (hat : va.ownBlock = some g6 ∨ g6 = V.heap.size) :
    w6.heap[B1]? = some (.cells #[.bool f, va] 82) ∧ SrAt w0 W0 (w6.setCell ⟨B1, 1, none⟩ (.slice (some ⟨g6, 0, none⟩) (p.1.length + 1) cp6)) B B0 B1 f (.slice (some ⟨g6, 0, none⟩) (p.1.length + 1) cp6) (p.1 ++ [q], p.2) := by
  have hBl := (Array.getElem?_eq_some_iff.1 h.box).1
  have hVs := hV.size
  have hb0 := h.b0
  have hb1 := h.b1
  have hva : ∀ b, va.ownBlock = some b → B1 + 1 ≤ b := fun b hb => (own_blk h.row hb).1
  have hk : ∀ b, b ≤ B1 → w6.heap[b]? = W.heap[b]? := fun b hb => by
    rw [hg.block b (by omega) (fun e => by have := hva b e.symm; omega), hV.block b (by omega)]
  have hbox := (hk B1 (Nat.le_refl _)).trans h.box
  have hg6 : g6 ≠ B1 := by
    rcases hat with e | e
    · have := hva g6 e; omega
    · omega
  have hnew := h.rdr.new
  have hb6 : Below w0.heap.size W w6 := ⟨by rw [hg.os, hV.os], by rw [hg.tape, hV.tape], by rw [hg.output, hV.output], Nat.le_trans hV.size hg.size, fun b hb => hk b (by omega)⟩
  refine ⟨hbox, ?_, h.b0, h.b1, ?_, blk_setk hbox 1 _, ?_, fun b hb hne => ?_⟩
  · refine h.rdr.keep (h.rdr.old.trans (hb6.setCell (p := ⟨B1, 1, none⟩) (by dsimp only; omega) _)) ?_
    rw [heap_set_other w6 B1 1 _ _ (by omega)]; exact hk _ (by omega)
  · rw [heap_set_other w6 B1 1 _ _ (by omega)]; exact (hk _ (by omega)).trans h.res
  · rw [List.length_append, aC_snoc]
    exact own_congr hown fun b hb => heap_set_other w6 B1 1 _ b (by cases hb; exact hg6)
  · rw [heap_set_other w6 B1 1 _ _ (by omega)]; exact (hk _ (by omega)).trans (h.fr b hb hne)
/-- A call within a region that draws its order. -/
theorem step_call2 {ops : Array Oper} {o : Oper} {a : Act} {w : World} {K : Act → World → Prop} {Q : Exit → Act → World → Prop} {E : Prop} (hgd : o.guard = none) (f : FuncId) (x y : Operand) (t u : TypeId) (ho : o.op = .call { callee := .value (.func f), args := #[x, y], argTypes := #[t, u] })
    (v z : Value) (hx : a.eval x = v) (hy : a.eval y = z) (hf : (callFunc f #[v, z]).run Try.prog w = .ok (.enter f #[v, z]) w) (R : Value → World → Prop) (hc : Calls Try.prog f #[v, z] w fun e w' => ∃ r, e = .returned r ∧ R r w') (h : ∀ r w', R r w' → K (a.put o.dst r) w') :
    if Region.wanted o (yielded ops a.tmps) = true then Oper.wp Try.prog o a w K Q else E := by
  rw [if_pos (by simp [Region.wanted, hgd])]
  simp only [Oper.wp, dbx_call2 w a o f x y t u ho v z hx hy hf, Oper.upon]
  refine hc.mono ?_
  rintro e w' ⟨r, rfl, hr⟩
  exact h r w' hr
end Go.Proofs.Ytbkedgpligcicaa

namespace Go.Proofs.Ytbkedgpligcicaa
open Go Go.RowKit
set_option linter.unusedVariables false
set_option maxRecDepth 100000
theorem own_monoN {w : World} {base base' e n size : Nat} {v : Value} {xs : List Value} (h : w.ownsRow base e size v n xs) (hb : base' ≤ base) : w.ownsRow base' e size v n xs := by
  refine ⟨h.1, ?_⟩
  rcases h.2 with h' | ⟨g, cap, cur, h1, h2, h3⟩
  · exact Or.inl h'
  · exact Or.inr ⟨g, cap, cur, h1, by omega, h3⟩
set_option maxHeartbeats 8000000 in
theorem state_any {w0 W : World} {B : Nat} {bs : List UInt8} {sh : Bool} (hn : bs.length ≤ 1048576) (h : RdrAt w0 W B bs sh) :
    Calls Try.prog 83 #[.pointer (some ⟨B, 0, none⟩)] W fun e w' => ∃ va, e = .returned (.agg #[.bool (stateR bs sh).1.1, va]) ∧ RdrAt w0 w' B (stateR bs sh).2.1 (stateR bs sh).2.2 ∧ RdFr B W w' ∧ w'.ownsRow W.heap.size 85 3 va (stateR bs sh).1.2.length (aC (stateR bs sh).1.2) := by
  have HBa := hidd ((Below.refl W.heap.size W).alloc (Nat.le_refl _) (.cells #[.bool false, .slice none 0 0] 82))
  have HQ := hidd (heap_alloc_new W (.cells #[.bool false, .slice none 0 0] 82))
  have HR := hidd h
  have hBW := h.lt
  clear h
  go_enter Try.func83, Try.ntmps83
  go_upto_region 1 with fail
  obtain ⟨wa, hwa⟩ : ∃ wa, W.alloc (.cells #[.bool false, .slice none 0 0] 82) = wa := ⟨_, rfl⟩
  rw [hwa] at HBa HQ
  try rw [hwa]
  clear hwa
  have HR1 := hidd (HR.out.below HBa.out)
  have hzW : W.heap.size < wa.heap.size := (Array.getElem?_eq_some_iff.1 HQ.out).1
  have HNu := hidd (number_any (most := 513) hn (by omega) HR1.out)
  obtain ⟨sg, hsg, hsb⟩ := numR_val 513 bs sh
  rw [hsg] at HNu
  have HDo := hidd (doubled_any 256 true wa (by omega) 513 rfl)
  go_wp2_with fail
  refine HDo.out.mono ?_
  rintro e wd ⟨rfl, rfl⟩
  clear HDo
  dsimp only
  go_wp2_with fail
  refine HNu.out.mono ?_
  rintro e w1 ⟨rfl, hr1, hf1⟩
  have HR2 := hidd hr1
  have HF1 := hidd hf1
  have Hsg := hidd hsg
  clear hr1 hf1 HNu hsg
  dsimp only
  have hfb : ((sg : Int) % 2 == 1) = (sg % 2 == 1) := by
    have : (sg : Int) % 2 = ((sg % 2 : Nat) : Int) := by omega
    rw [this]
    rcases Nat.mod_two_eq_zero_or_one sg with h | h <;> rw [h] <;> rfl
  have hw1 : W.heap.size < w1.heap.size := Nat.lt_of_lt_of_le hzW HF1.out.1
  have HBs := hidd ((Below.refl w1.heap.size w1).alloc (Nat.le_refl _) (.cells #[.bool ((sg : Int) % 2 == 1), .slice none 0 0] 82))
  have HI0 : Hid (SrAt w0 W (w1.alloc (.cells #[.bool ((sg : Int) % 2 == 1), .slice none 0 0] 82)) B W.heap.size w1.heap.size ((sg : Int) % 2 == 1) (.slice none 0 0) ([], (numR 513 bs sh).2)) := by
    refine ⟨HR2.out.below HBs.out, hBW, hw1, ?_, heap_alloc_new w1 _, World.ownsRow_nil _ _ _ _, fun b hb hne => ?_⟩
    · exact (HBs.out.block _ hw1).trans ((HF1.out.2 _ hzW (by omega)).trans HQ.out)
    · exact (HBs.out.block _ (by omega)).trans ((HF1.out.2 b (by omega) hne).trans (HBa.out.block b hb))
  have HP : Hid (stateR bs sh = (((sg : Int) % 2 == 1, (arcsN (sg / 2) ([], (numR 513 bs sh).2)).1), (arcsN (sg / 2) ([], (numR 513 bs sh).2)).2)) := by
    show _ = _
    rw [stateR, Hsg.out, hfb]; rfl
  have hql := Nat.le_trans (numR_len 513 bs sh) hn
  clear hfb HR2 HF1 HBs HR1 HR HQ HBa Hsg
  obtain ⟨B0, hB0⟩ : ∃ B0, W.heap.size = B0 := ⟨_, rfl⟩
  obtain ⟨B1, hB1⟩ : ∃ B1, w1.heap.size = B1 := ⟨_, rfl⟩
  have HB0 := hidd hB0
  rw [hB0, hB1] at HI0
  try rw [hB0]
  generalize (numR 513 bs sh).2 = q0 at *
  go_wp2_with fail
  try rw [hB1]
  generalize w1.alloc (.cells #[.bool ((sg : Int) % 2 == 1), .slice none 0 0] 82) = wi0 at *
  generalize ((sg : Int) % 2 == 1) = fb at *
  clear hB1 hB0 hw1 hzW hBW
  go_loopw [15] (fun kv wr => ∃ (k : Nat) (va : Value), k ≤ sg / 2 ∧ kv = .int .i64 (k : Int) ∧ SrAt w0 W wr B B0 B1 fb va (arcsN k ([], q0))) (fun kv _ => sg / 2 - (intOf kv).toNat)
  case atStart => exact ⟨0, _, Nat.zero_le _, rfl, HI0.out⟩
  case round =>
    clear HI0
    obtain ⟨k, va, hk, rfl, hsr⟩ := hrel
    obtain ⟨aA, cA, rfl⟩ := own_form hsr.row
    have HS := hidd hsr
    clear hsr
    have hpl : (arcsN k ([], q0)).2.1.length ≤ 1048576 := Nat.le_trans (arcsN_len k _) hql
    have hpk := arcsN_num k ([], q0)
    have HSu := hidd (arcsN_succ k ([], q0))
    by_cases hkm : k < sg / 2
    · have hkz : (k : Int) < (sg : Int) / 2 := by omega
      generalize arcsN k ([], q0) = p at *
      obtain ⟨l, bs1, sh1⟩ := p
      dsimp only at hpl hpk HS
      have hll : l.length ≤ 300 := by simp at hpk; omega
      clear hpk
      have HNx := hidd (next_any hpl HS.out.rdr)
      obtain ⟨lb, hlb, hlb2⟩ := nextR_val bs1 sh1
      have hnl := Nat.le_trans (nextR_len bs1 sh1) hpl
      unfold stepA at HSu
      dsimp only at HSu
      rw [hlb] at HNx HSu
      generalize (nextR bs1 sh1).2 = q1 at *
      obtain ⟨bs2, sh2⟩ := q1
      dsimp only at HNx HSu hnl
      clear hlb
      go_wp2_with fail
      refine HNx.out.mono ?_
      rintro e w2 ⟨rfl, hr2, hf2⟩
      have HS2 := hidd (HS.out.call hr2 hf2)
      clear hr2 hf2 HNx HS
      dsimp only at HS2
      obtain ⟨tv, htv, htv2⟩ := numR_val 16383 bs2 sh2
      have HN2 := hidd (fun W' (hW : Below w2.heap.size w2 W') => number_any (most := 16383) hnl (by omega) (HS2.out.rdr.below hW))
      rw [htv] at HN2 HSu
      generalize (numR 16383 bs2 sh2).2 = q2 at *
      obtain ⟨bs3, sh3⟩ := q2
      dsimp only at HN2
      clear htv
      dsimp only
      obtain ⟨i1, hi1, hy0, hy1, hy2⟩ := info_parts Try.infoArc
      have b1 := blkc HS2.out.box 1
      go_upto_region 6 with fail
      have HPu := hidd (fun W3 V w6 g6 cp6 (hS3 : SrAt w0 W W3 B B0 B1 fb (.slice aA l.length cA) (l, bs3, sh3)) => hS3.push (V := V) (w6 := w6) (g6 := g6) (cp6 := cp6) (q := ((lb : Int), (tv : Int), 0)))
      go_region_law (first
        | (refine step_append_lies _ rfl (.tmp 20) (.tmp 25) 80 rfl (B1 + 1) 85 i1 (.agg #[.int .i64 0, .int .i64 0, .int .i64 0]) 3 24 Try.underlying80 hi1 hy0 hy1 hy2 rfl (by decide) (.slice aA l.length cA) l.length (aC l) (by simp [Act.eval]) (by first | exact HO3.out.drew.alloc _ | exact HO3.out.alloc _) ⟨w3.heap.size, 0, none⟩ 1 1 [.int .i64 (lb : Int), .int .i64 (tv : Int), .int .i64 0] (by simp [Act.eval]) rfl (World.news_of_block (by first | exact heap_alloc_new w3 _ | exact heap_alloc_new w3.drew _)) (by intro u' hu'; simp at hu'; rcases hu' with rfl | rfl | rfl <;> rfl) (by omega) (by unfold maxLen; omega) (by omega) (by first | omega | (simp; omega)) _ rfl ?_; intro g6 cp6 w6 hown6 hgrow6 hat6 hlt6; have HV := vOn (wb := w3) hgrow6 (by first | exact (below_drewN (Below.refl _ _) 1).alloc (by simp) _ | exact (Below.refl _ _).alloc (by simp) _); obtain ⟨t1, t2⟩ := HPu.out w3 _ w6 g6 cp6 HS3.out HV.out hown6 hgrow6 hat6; have s2 := blkc t1 1; have sf := blkf t1 1; have HT2 := hidd t2; clear t1 t2 hown6 hgrow6 hat6 hlt6)
        | (refine step_call2 rfl 82 (.tmp 22) (.const (.int .i64 16383)) _ _ rfl (.pointer (some ⟨B, 0, none⟩)) (.int .i64 ((16383 : Nat) : Int)) (by first | rfl | simp [Act.eval, Act.put]) rfl (Try.call82 _ _) (fun r w' => r = .int .i64 (tv : Int) ∧ SrAt w0 W w' B B0 B1 fb (.slice aA l.length cA) (l, bs3, sh3)) ((HN2.out _ (by first | exact below_drewN (Below.refl _ _) 1 | exact Below.refl _ _)).mono (by rintro e w3 ⟨rfl, hr3, hf3⟩; exact ⟨_, rfl, rfl, (HS2.out.below (by first | exact below_drewN (Below.refl _ _) 1 | exact Below.refl _ _)).call hr3 hf3⟩)) ?_; rintro r w3 ⟨rfl, hS3⟩; have HS3 := hidd hS3; have b3 := blkc HS3.out.box 1; have HO3 := hidd HS3.out.row; have hB3 : B1 < w3.heap.size := (Array.getElem?_eq_some_iff.1 HS3.out.box).1; clear hS3))
      all_goals
        have HA : Hid (SrAt w0 W (w6.setCell ⟨B1, 1, none⟩ (.slice (some ⟨g6, 0, none⟩) (l.length + 1) cp6)) B B0 B1 fb (.slice (some ⟨g6, 0, none⟩) (l.length + 1) cp6) (arcsN (k + 1) ([], q0))) := by
          show SrAt _ _ _ _ _ _ _ _ _
          rw [HSu.out]
          exact HT2.out
        go_wp2_with fail
        go_roundw
        case rel => exact ⟨k + 1, by omega, by omega, _, HA.out⟩
        case measure => simp [intOf]; omega
    · have hkz : ¬ (k : Int) < (sg : Int) / 2 := by omega
      have hks : k = sg / 2 := by omega
      rw [hks] at HS
      clear hpl hpk HSu hks
      generalize arcsN (sg / 2) ([], q0) = p at *
      obtain ⟨l, bs1, sh1⟩ := p
      dsimp only at HS HP
      have x0 := blkc HS.out.res 0
      have x1 := blkc HS.out.res 1
      have f0 := blkf HS.out.res 0
      have f1 := blkf HS.out.res 1
      have y0 := blkc HS.out.box 0
      have y1 := blkc HS.out.box 1
      have hb0 := HS.out.b0
      have hb1 := HS.out.b1
      have HX := hidd (blk_set2 (x := .bool fb) (y := .slice aA l.length cA) HS.out.res)
      have z0 := blkc HX.out 0
      have z1 := blkc HX.out 1
      have hwr : B1 < wr.heap.size := (Array.getElem?_eq_some_iff.1 HS.out.box).1
      go_wp2_with fail
      refine bodyPost_ret (v := .agg #[.bool fb, .slice aA l.length cA]) (by simp [results, Try.results83, go_sem, z0, z1]) rfl ?_
      refine ⟨.slice aA l.length cA, by rw [HP.out], ?_, ?_, ?_⟩
      · rw [HP.out]
        refine HS.out.rdr.keep ((HS.out.rdr.old.setCell (p := ⟨B0, 0, none⟩) ?_ _).setCell (p := ⟨B0, 1, none⟩) ?_ _) ((heap_set_other _ B0 1 _ B (by omega)).trans (heap_set_other wr B0 0 _ B (by omega)))
        · have := HS.out.rdr.new; dsimp only; omega
        · have := HS.out.rdr.new; dsimp only; omega
      · rw [RdFr, HB0.out]
        refine ⟨by simp; omega, fun b hb hne => ?_⟩
        rw [heap_set_other _ B0 1 _ b (by omega), heap_set_other wr B0 0 _ b (by omega)]
        exact HS.out.fr b hb hne
      · rw [HP.out, HB0.out]
        refine own_monoN (own_congr HS.out.row fun b hb => ?_) (by omega)
        have := (HS.out.row.lt b hb).1
        rw [heap_set_other _ B0 1 _ b (by omega), heap_set_other wr B0 0 _ b (by omega)]
end Go.Proofs.Ytbkedgpligcicaa

namespace Go.Proofs.Ytbkedgpligcicaa
open Go Go.RowKit
set_option linter.unusedVariables false
set_option linter.unusedSimpArgs false
set_option maxRecDepth 100000

def BytesC (fn : Nat) : Prop := ∀ (c : Int) (a : Option Addr) (cap : Nat) (S : List St) (w : World), S.length ≤ 1048576 → (∀ i, (arcsAt S i).length ≤ 1048576) → HoldS w a S →
  Calls Try.prog fn #[.agg #[.int .i64 c, .slice a S.length cap]] w fun e w' => ∃ v, e = .returned (.tuple #[v, .int .i64 (bytesO S (dictT c S)).2]) ∧ w'.ownsRow w.heap.size 5 1 v (bytesO S (dictT c S)).1.length (Lib.byteCells (bytesO S (dictT c S)).1) ∧ Below w.heap.size w w'
theorem u8wrap (n : Nat) : IntKind.u8.wrap (n : Int) = ((n % 256 : Nat) : Int) := by
  simp [IntKind.wrap, IntKind.bits, IntKind.signed]
set_option maxHeartbeats 2000000 in
theorem sumBytes_any (b off cap : Nat) (bs : List UInt8) (w : World) (hc : BytesAt w b off bs) (hb : b < w.heap.size) :
    Calls Try.prog 50 #[.slice (some ⟨b, off, none⟩) bs.length cap] w fun e w' => e = .returned (.agg #[.int .u8 ((sumL bs / 16777216 : Nat) : Int), .int .u8 ((sumL bs / 65536 % 256 : Nat) : Int), .int .u8 ((sumL bs / 256 % 256 : Nat) : Int), .int .u8 ((sumL bs % 256 : Nat) : Int)]) ∧ Below w.heap.size w w' := by
  have HBa := hidd ((Below.refl w.heap.size w).alloc (Nat.le_refl _) (.cells #[.int .u8 0, .int .u8 0, .int .u8 0, .int .u8 0] 86))
  have HS := hidd (fun (W : World) (hW : Below w.heap.size w W) => implSum_any b off cap bs W (hc.below hW))
  have hlt := sumL_lt bs
  obtain ⟨n, hn⟩ : ∃ n, sumL bs = n := ⟨_, rfl⟩
  rw [hn] at HS hlt
  have Hn := hidd hn
  clear hc hn
  go_enter Try.func50, Try.ntmps50
  go_wp2_with fail
  refine (HS.out _ HBa.out).mono ?_
  rintro e w1 ⟨rfl, rfl⟩
  dsimp only
  go_wp2_with fail
  refine bodyPost_ret (v := .agg #[.int .u8 ((n : Int) / 16777216), .int .u8 ((n : Int) / 65536 % 256), .int .u8 ((n : Int) / 256 % 256), .int .u8 ((n : Int) % 256)]) (by simp [results, Try.results50, go_sem, *]) rfl ?_
  refine ⟨?_, (Below.refl w.heap.size w).alloc (Nat.le_refl _) _⟩
  rw [Hn.out]
  congr 4
theorem four_cells {M : List UInt8} (n : Nat) (h : n < 4294967296) : Lib.byteCells (M ++ four n) = Lib.byteCells M ++ [.int .u8 ((n : Int) / 16777216), .int .u8 ((n : Int) / 65536 % 256), .int .u8 ((n : Int) / 256 % 256), .int .u8 ((n : Int) % 256)] := by
  have e1 : (UInt8.ofNat (n / 16777216)).toNat = n / 16777216 := by rw [UInt8.toNat_ofNat']; omega
  have e2 : (UInt8.ofNat (n / 65536 % 256)).toNat = n / 65536 % 256 := by rw [UInt8.toNat_ofNat']; omega
  have e3 : (UInt8.ofNat (n / 256 % 256)).toNat = n / 256 % 256 := by rw [UInt8.toNat_ofNat']; omega
  have e4 : (UInt8.ofNat (n % 256)).toNat = n % 256 := by rw [UInt8.toNat_ofNat']; omega
  simp only [Lib.byteCells, four, List.map_append, List.map_cons, List.map_nil, e1, e2, e3, e4]
  congr 1
end Go.Proofs.Ytbkedgpligcicaa

namespace Go.Proofs.Ytbkedgpligcicaa
open Go Go.RowKit
set_option linter.unusedVariables false

theorem eqItem8 (w : World) (xs ys : Array Value) (i : Nat) (x y : Int) (hx : xs[i]? = some (.int .u8 x)) (hy : ys[i]? = some (.int .u8 y)) (is : List Nat) :
    (Op.eqItems (9998 + 1) 5 1 xs ys (i :: is)).run Try.prog w = if x == y then (Op.eqItems (9998 + 1) 5 1 xs ys is).run Try.prog w else .ok false w := by
  have hk : Try.prog.plainKey 5 = true := by kernel_rfl
  have h1 := run_part_plain (P := Try.prog) w hk hx
  have h2 := run_part_plain (P := Try.prog) w hk hy
  have h3 : (Op.equalIn (9998 + 1) 5 (.int .u8 x) (.int .u8 y)).run Try.prog w = .ok (x == y) w := run_equalIn_int w 9998 _ _ _ _ _ Try.underlying5
  simp only [Op.eqItems, Nat.mul_one, Sem.run_bind, h1, h2, h3, Result.andThen_ok]
  cases hxy : (x == y) <;> simp
/-- Two arrays of four bytes compared. -/
theorem eq4_run (w : World) (a0 a1 a2 a3 b0 b1 b2 b3 : Int) : (Op.equalIn 10000 86 (.agg #[.int .u8 a0, .int .u8 a1, .int .u8 a2, .int .u8 a3]) (.agg #[.int .u8 b0, .int .u8 b1, .int .u8 b2, .int .u8 b3])).run Try.prog w = .ok (a0 == b0 && (a1 == b1 && (a2 == b2 && a3 == b3))) w := by
  obtain ⟨i, hi⟩ := info_of_underlying (P := Try.prog) Try.underlying5
  have hc : Try.prog.cellsOf 5 = 1 := by kernel_rfl
  rw [show (10000 : Nat) = 9998 + 1 + 1 from rfl, run_equalIn_array (P := Try.prog) w (9998 + 1) _ _ Try.underlying86 hi, hc, show List.range 4 = [0, 1, 2, 3] from rfl,
    eqItem8 w _ _ 0 a0 b0 rfl rfl, eqItem8 w _ _ 1 a1 b1 rfl rfl, eqItem8 w _ _ 2 a2 b2 rfl rfl, eqItem8 w _ _ 3 a3 b3 rfl rfl]
  cases (a0 == b0) <;> cases (a1 == b1) <;> cases (a2 == b2) <;> cases (a3 == b3) <;> simp [Op.eqItems]
end Go.Proofs.Ytbkedgpligcicaa
