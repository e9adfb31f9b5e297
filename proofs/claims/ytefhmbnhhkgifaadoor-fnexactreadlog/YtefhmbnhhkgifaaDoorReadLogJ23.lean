import Derived.Test.YtefhmbnhhkgifaaDoorReadLogJ22
import Derived.Test.YtefhmbnhhkgifaaDoorReadLogJ21
namespace Go.Proofs.YtefhmbnhhkgifaaDoor
open Go Go.RowKit
set_option linter.unusedVariables false
set_option maxRecDepth 100000

/-- What was read so far, and what is still to be read. -/
def glD (id : List UInt8) (V : List Vl) (o : Option (List Vl × List UInt8)) : Option (Dc × List UInt8) := o.map fun p => ((id, V ++ p.1), p.2)
def apT (tx : List (List UInt8)) (o : Option (List (List UInt8) × List UInt8)) : Option (List (List UInt8) × List UInt8) := o.map fun p => (tx ++ p.1, p.2)
def apN (nz : List Int) (o : Option (List Int × List UInt8)) : Option (List Int × List UInt8) := o.map fun p => (nz ++ p.1, p.2)
def contN (f : List UInt8) (tx : List (List UInt8)) (o : Option (List Int × List UInt8)) : Option (Vl × List UInt8) := o.map fun p => ((f, tx, p.1), p.2)
def contV (f : List UInt8) (o : Option (List (List UInt8) × List UInt8)) : Option (Vl × List UInt8) := match o with
  | none => none
  | some (tx, r3) => match rdN 4096 r3 with
    | none => none
    | some (m, r4) => contN f tx (rdZs m r4)
theorem rdV_cont {bs f r1 r2 : List UInt8} {n : Nat} (h1 : rdT bs = some (f, r1)) (h2 : rdN 4096 r1 = some (n, r2)) : rdV bs = contV f (rdTs n r2) := by
  unfold rdV contV
  rw [h1]
  simp only
  rw [h2]
  simp only
  cases rdTs n r2 with
  | none => rfl
  | some p =>
    obtain ⟨tx, r3⟩ := p
    simp only
    cases rdN 4096 r3 with
    | none => rfl
    | some q =>
      obtain ⟨m, r4⟩ := q
      simp only [contN]
      cases rdZs m r4 with
      | none => rfl
      | some x => obtain ⟨zs, r5⟩ := x; rfl
theorem rdV_no1 {bs : List UInt8} (h1 : rdT bs = none) : rdV bs = none := by unfold rdV; rw [h1]
theorem rdV_no2 {bs f r1 : List UInt8} (h1 : rdT bs = some (f, r1)) (h2 : rdN 4096 r1 = none) : rdV bs = none := by unfold rdV; rw [h1]; simp only; rw [h2]
theorem rdD_glD {bs id r1 r2 : List UInt8} {n : Nat} (h1 : rdT bs = some (id, r1)) (h2 : rdN 4096 r1 = some (n, r2)) : rdD bs = glD id [] (rdVs n r2) := by
  unfold rdD glD
  rw [h1]
  simp only
  rw [h2]
  simp only
  cases rdVs n r2 with
  | none => rfl
  | some p => rfl
theorem rdD_no1 {bs : List UInt8} (h1 : rdT bs = none) : rdD bs = none := by unfold rdD; rw [h1]
theorem rdD_no2 {bs id r1 : List UInt8} (h1 : rdT bs = some (id, r1)) (h2 : rdN 4096 r1 = none) : rdD bs = none := by unfold rdD; rw [h1]; simp only; rw [h2]
theorem glD_step {id : List UInt8} {V : List Vl} {k : Nat} {r r' : List UInt8} {v : Vl} (h : rdV r = some (v, r')) : glD id V (rdVs (k + 1) r) = glD id (V ++ [v]) (rdVs k r') := by
  unfold glD
  rw [rdVs, h]
  simp only
  cases rdVs k r' with
  | none => rfl
  | some p => simp
theorem glD_no {id : List UInt8} {V : List Vl} {k : Nat} {r : List UInt8} (h : rdV r = none) : glD id V (rdVs (k + 1) r) = none := by unfold glD; rw [rdVs, h]; rfl
theorem glD_end {id : List UInt8} {V : List Vl} {r : List UInt8} : glD id V (rdVs 0 r) = some ((id, V), r) := by unfold glD; rw [rdVs]; simp
theorem apT_step {tx : List (List UInt8)} {k : Nat} {r r' t : List UInt8} (h : rdT r = some (t, r')) : apT tx (rdTs (k + 1) r) = apT (tx ++ [t]) (rdTs k r') := by
  unfold apT
  rw [rdTs, h]
  simp only
  cases rdTs k r' with
  | none => rfl
  | some p => simp
theorem apT_no {tx : List (List UInt8)} {k : Nat} {r : List UInt8} (h : rdT r = none) : apT tx (rdTs (k + 1) r) = none := by unfold apT; rw [rdTs, h]; rfl
theorem apT_end {tx : List (List UInt8)} {r : List UInt8} : apT tx (rdTs 0 r) = some (tx, r) := by unfold apT; rw [rdTs]; simp
theorem apT_nil {o : Option (List (List UInt8) × List UInt8)} : apT [] o = o := by unfold apT; cases o <;> simp
theorem apN_step {nz : List Int} {k v : Nat} {r r' : List UInt8} (h : rdN 2000000000000 r = some (v, r')) : apN nz (rdZs (k + 1) r) = apN (nz ++ [sgn v]) (rdZs k r') := by
  unfold apN
  rw [rdZs, h]
  simp only
  cases rdZs k r' with
  | none => rfl
  | some p => simp
theorem apN_no {nz : List Int} {k : Nat} {r : List UInt8} (h : rdN 2000000000000 r = none) : apN nz (rdZs (k + 1) r) = none := by unfold apN; rw [rdZs, h]; rfl
theorem apN_end {nz : List Int} {r : List UInt8} : apN nz (rdZs 0 r) = some (nz, r) := by unfold apN; rw [rdZs]; simp
theorem apN_nil {o : Option (List Int × List UInt8)} : apN [] o = o := by unfold apN; cases o <;> simp
theorem contV_some {f r3 r4 : List UInt8} {tx : List (List UInt8)} {m : Nat} (h : rdN 4096 r3 = some (m, r4)) : contV f (some (tx, r3)) = contN f tx (rdZs m r4) := by unfold contV; simp only; rw [h]
theorem contV_no {f r3 : List UInt8} {tx : List (List UInt8)} (h : rdN 4096 r3 = none) : contV f (some (tx, r3)) = none := by unfold contV; simp only; rw [h]
theorem own_formR {w : World} {base e sz n : Nat} {v : Value} {xs : List Value} (h : w.ownsRow base e sz v n xs) : ∃ a c, v = .slice a n c := by
  rcases h.2 with ⟨rfl, rfl⟩ | ⟨g, cap, cur, rfl, _⟩
  · exact ⟨none, 0, rfl⟩
  · exact ⟨_, cap, rfl⟩
theorem vOnR {wb V w6 : World} {row : Option Nat} (h : V.grownBy w6 row) (hb : Below wb.heap.size wb V) : Hid (Below wb.heap.size wb V) := hidd hb
theorem dbx_callR1 (W : World) (a : Act) (o : Oper) (f : FuncId) (x : Operand) (t : TypeId) (ho : o.op = .call { callee := .value (.func f), args := #[x], argTypes := #[t] }) (v : Value) (hx : a.eval x = v)
    (hf : (callFunc f #[v]).run Tryd.prog W = .ok (.enter f #[v]) W) : (execOp a.eval o).run Tryd.prog W = .ok (.enter f #[v]) W := by
  have hfn : a.eval (.func f) = .func (.func f) #[] #[] := rfl
  unfold execOp
  simp [ho, resolve, invoke, Deferred.ofValue, hfn, hx, hf]
theorem dbx_callR2 (W : World) (a : Act) (o : Oper) (f : FuncId) (x y : Operand) (t u : TypeId) (ho : o.op = .call { callee := .value (.func f), args := #[x, y], argTypes := #[t, u] }) (v z : Value) (hx : a.eval x = v) (hy : a.eval y = z)
    (hf : (callFunc f #[v, z]).run Tryd.prog W = .ok (.enter f #[v, z]) W) : (execOp a.eval o).run Tryd.prog W = .ok (.enter f #[v, z]) W := by
  have hfn : a.eval (.func f) = .func (.func f) #[] #[] := rfl
  unfold execOp
  simp [ho, resolve, invoke, Deferred.ofValue, hfn, hx, hy, hf]
/-- A call within a region that draws its order. -/
theorem step_callR1 {ops : Array Oper} {o : Oper} {a : Act} {w : World} {K : Act → World → Prop} {Q : Exit → Act → World → Prop} {E : Prop} (hgd : o.guard = none) (f : FuncId) (x : Operand) (t : TypeId) (ho : o.op = .call { callee := .value (.func f), args := #[x], argTypes := #[t] })
    (v : Value) (hx : a.eval x = v) (hf : (callFunc f #[v]).run Tryd.prog w = .ok (.enter f #[v]) w) (R : Value → World → Prop) (hc : Calls Tryd.prog f #[v] w fun e w' => ∃ r, e = .returned r ∧ R r w') (h : ∀ r w', R r w' → K (a.put o.dst r) w') :
    if Region.wanted o (yielded ops a.tmps) = true then Oper.wp Tryd.prog o a w K Q else E := by
  rw [if_pos (by simp [Region.wanted, hgd])]
  simp only [Oper.wp, dbx_callR1 w a o f x t ho v hx hf, Oper.upon]
  refine hc.mono ?_
  rintro e w' ⟨r, rfl, hr⟩
  exact h r w' hr
theorem step_callR2 {ops : Array Oper} {o : Oper} {a : Act} {w : World} {K : Act → World → Prop} {Q : Exit → Act → World → Prop} {E : Prop} (hgd : o.guard = none) (f : FuncId) (x y : Operand) (t u : TypeId) (ho : o.op = .call { callee := .value (.func f), args := #[x, y], argTypes := #[t, u] })
    (v z : Value) (hx : a.eval x = v) (hy : a.eval y = z) (hf : (callFunc f #[v, z]).run Tryd.prog w = .ok (.enter f #[v, z]) w) (R : Value → World → Prop) (hc : Calls Tryd.prog f #[v, z] w fun e w' => ∃ r, e = .returned r ∧ R r w') (h : ∀ r w', R r w' → K (a.put o.dst r) w') :
    if Region.wanted o (yielded ops a.tmps) = true then Oper.wp Tryd.prog o a w K Q else E := by
  rw [if_pos (by simp [Region.wanted, hgd])]
  simp only [Oper.wp, dbx_callR2 w a o f x y t u ho v z hx hy hf, Oper.upon]
  refine hc.mono ?_
  rintro e w' ⟨r, rfl, hr⟩
  exact h r w' hr
theorem Tryd.infoStrR : (Tryd.prog.info? 9).map (fun i => (i.zero, i.size, i.bytes)) = some (some (.string ⟨#[]⟩), 1, 16) := by kernel_rfl
theorem Tryd.infoIntR : (Tryd.prog.info? 3).map (fun i => (i.zero, i.size, i.bytes)) = some (some (.int .i64 0), 1, 8) := by kernel_rfl
theorem Tryd.infoValR : (Tryd.prog.info? 64).map (fun i => (i.zero, i.size, i.bytes)) = some (some (.agg #[.string ⟨#[]⟩, .slice none 0 0, .slice none 0 0]), 3, 64) := by kernel_rfl
/-- What doc comes to. -/
def DocPost (u : TypeId) (pv : Value) (w0 W : World) (B : Nat) (bs : List UInt8) (e : Ending) (w' : World) : Prop :=
  (∃ id V va xs r lo, rdD bs = some ((id, V), r) ∧ e = .returned (.agg #[.string ⟨id.toArray⟩, va]) ∧ W.heap.size ≤ lo ∧ AnsV w' lo w'.heap.size va V xs ∧ RdrAt w0 w' B r false ∧ RdFr B W w') ∨ (rdD bs = none ∧ Cut u pv w0 W B e w')
end Go.Proofs.YtefhmbnhhkgifaaDoor

namespace Go.Proofs.YtefhmbnhhkgifaaDoor
open Go Go.RowKit
set_option linter.unusedVariables false
set_option maxRecDepth 100000

def CuP (w0 W : World) (B b off c : Nat) (bs r : List UInt8) (bd : Bool) (e : Ending) (w' : World) : Prop :=
  ∃ (n : Nat) (r' : List UInt8) (bd' : Bool), e = .returned (.int .i64 (n : Int)) ∧ n ≤ 4096 ∧ RdFr B W w' ∧ SpAt w0 w' B b off c bs r' bd' ∧ ((bd' = true ∧ (bd = true ∨ rdN 4096 r = none)) ∨ (bd' = false ∧ bd = false ∧ rdN 4096 r = some (n, r')))
def TuP (w0 W : World) (B b off c : Nat) (bs r : List UInt8) (e : Ending) (w' : World) : Prop :=
  ∃ (t r' : List UInt8) (bd' : Bool), e = .returned (.string ⟨t.toArray⟩) ∧ RdFr B W w' ∧ SpAt w0 w' B b off c bs r' bd' ∧ ((bd' = true ∧ rdT r = none) ∨ (bd' = false ∧ rdT r = some (t, r')))
def NuP (w0 W : World) (B b off c : Nat) (bs r : List UInt8) (e : Ending) (w' : World) : Prop :=
  ∃ (z : Int) (r' : List UInt8) (bd' : Bool), e = .returned (.int .i64 z) ∧ RdFr B W w' ∧ SpAt w0 w' B b off c bs r' bd' ∧ ((bd' = true ∧ rdN 2000000000000 r = none) ∨ (bd' = false ∧ ∃ v, rdN 2000000000000 r = some (v, r') ∧ z = sgn v))
theorem count_u {w0 W : World} {B b off c : Nat} {bs r : List UInt8} {bd : Bool} (hn : bs.length ≤ 1048576) (h : SpAt w0 W B b off c bs r bd) :
    Calls Tryd.prog 47 #[.pointer (some ⟨B, 0, none⟩)] W (CuP w0 W B b off c bs r bd) := by
  cases bd with
  | true =>
    refine (count_bad h).mono ?_
    rintro e w' ⟨rfl, rfl⟩
    exact ⟨0, r, true, rfl, by omega, RdFr.refl _ _, h, Or.inl ⟨rfl, Or.inl rfl⟩⟩
  | false =>
    refine (count_any hn h).mono ?_
    rintro e w' ⟨hf, ⟨hg, r', rfl, h2⟩ | ⟨v, r', hg, rfl, h2⟩⟩
    · exact ⟨0, r', true, rfl, by omega, hf, h2, Or.inl ⟨rfl, Or.inr hg⟩⟩
    · exact ⟨v, r', false, rfl, (rdN_len hg).2, hf, h2, Or.inr ⟨rfl, rfl, hg⟩⟩
theorem stext_u {w0 W : World} {B b off c : Nat} {bs r : List UInt8} (hn : bs.length ≤ 1048576) (h : SpAt w0 W B b off c bs r false) :
    Calls Tryd.prog 46 #[.pointer (some ⟨B, 0, none⟩)] W (TuP w0 W B b off c bs r) := by
  refine (stext_any hn h).mono ?_
  rintro e w' ⟨hf, ⟨hg, r', rfl, h2⟩ | ⟨t, r', hg, rfl, h2⟩⟩
  · exact ⟨[], r', true, rfl, hf, h2, Or.inl ⟨rfl, hg⟩⟩
  · exact ⟨t, r', false, rfl, hf, h2, Or.inr ⟨rfl, hg⟩⟩
theorem numb_u {w0 W : World} {B b off c : Nat} {bs r : List UInt8} (hn : bs.length ≤ 1048576) (h : SpAt w0 W B b off c bs r false) :
    Calls Tryd.prog 48 #[.pointer (some ⟨B, 0, none⟩)] W (NuP w0 W B b off c bs r) := by
  refine (numb_any hn h).mono ?_
  rintro e w' ⟨hf, ⟨hg, r', rfl, h2⟩ | ⟨v, r', hg, rfl, h2⟩⟩
  · exact ⟨0, r', true, rfl, hf, h2, Or.inl ⟨rfl, hg⟩⟩
  · exact ⟨sgn v, r', false, rfl, hf, h2, Or.inr ⟨rfl, v, hg, rfl⟩⟩
/-- All is well so far, and X; or something was wrong, and Y. -/
def Rel (bd : Bool) (X Y : Prop) : Prop := (bd = false ∧ X) ∨ (bd = true ∧ Y)
def SDocPost (w0 W : World) (B b off c : Nat) (bs r0 : List UInt8) (e : Ending) (w' : World) : Prop :=
  ∃ id V va xs r bd lo, e = .returned (.agg #[.string ⟨id.toArray⟩, va]) ∧ W.heap.size ≤ lo ∧ AnsV w' lo w'.heap.size va V xs ∧ SpAt w0 w' B b off c bs r bd ∧ RdFr B W w' ∧ Rel bd (rdD r0 = some ((id, V), r)) (rdD r0 = none)
/-- The flag, as it lies. -/
theorem SpAt.flag {w0 W : World} {B b off c : Nat} {bs r : List UInt8} {bd : Bool} (h : SpAt w0 W B b off c bs r bd) : W.cell? ⟨B, 2, none⟩ = some (.bool bd) := by
  obtain ⟨k, h1, h2, h3⟩ := h.box
  exact blkc h3 2
end Go.Proofs.YtefhmbnhhkgifaaDoor
