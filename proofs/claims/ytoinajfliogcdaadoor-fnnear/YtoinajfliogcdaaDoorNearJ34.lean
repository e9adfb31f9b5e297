import Derived.Test.YtoinajfliogcdaaDoorNearJ33
import Derived.Test.YtoinajfliogcdaaDoorNearJ10
namespace Go.Proofs.YtoinajfliogcdaaDoor
open Go Go.RowKit
set_option linter.unusedVariables false
set_option linter.unusedSimpArgs false
set_option maxRecDepth 100000

def ksP (cl : List Int) (nxt : List (List Nat)) (q : Nat) : List Nat := (nxt.getD q []).map (kapN cl)
structure DfIn (w : World) (tb gp cp gf cf g3 c3 : Nat) (a0 a1 a2 a3 vrows : Value) (bs : List Bool) (cl : List Int) (parts : List (List Nat)) (nxt : List (List Nat)) (ls : List Int) (n : Nat) : Prop where
 box : w.heap[tb]? = some (.cells #[a0, a1, a2, a3, vrows, .slice (some ⟨gf, 0, none⟩) bs.length cf, .slice (some ⟨g3, 0, none⟩) cl.length c3, .slice (some ⟨gp, 0, none⟩) parts.length cp] 127)
 part : ∀ c, c < parts.length → ∃ gv ov nv cv, w.cell? ⟨gp, c, none⟩ = some (.slice (some ⟨gv, ov, none⟩) nv cv) ∧ 0 < nv ∧ w.cell? ⟨gv, ov, none⟩ = some (.int .i64 ((repP parts c : Nat) : Int))
 fin : ∀ q, q < n → w.cell? ⟨gf, q, none⟩ = some (.bool (bs.getD q false))
 cls0 : w.cell? ⟨g3, 0, none⟩ = some (.int .i64 ((kapN cl 0 : Nat) : Int))
 lead : ∀ W, Below w.heap.size w W → ∀ q, q < n → Calls Tryd.prog 119 #[.pointer (some ⟨tb, 0, none⟩), .int .i64 (q : Int)] W fun e W' => ∃ v, e = .returned v ∧ W'.ownsRow W.heap.size 3 1 v (ls.length + 1) (zI (nat2 (ksP cl nxt q))) ∧ Below W.heap.size W W'
 most : ∀ W, Below w.heap.size w W → ∀ q, q < n → ∀ v, HoldI W v (nat2 (ksP cl nxt q)) → Calls Tryd.prog 120 #[.pointer (some ⟨tb, 0, none⟩), v] W fun e W' => e = .returned (.int .i64 (((ksP cl nxt q).getD ls.length 0 : Nat) : Int)) ∧ Below W.heap.size W W'
 idx : ∀ W, Below w.heap.size w W → Calls Tryd.prog 115 #[.slice (some ⟨gp, 0, none⟩) parts.length cp, .func (.func 116) #[.pointer (some ⟨tb, 0, none⟩)] #[]] W fun e W' => ∃ z : Int, e = .returned (.int .i64 z) ∧ IdxOK (fun j => deadB bs cl (runs (nxt.getD (repP parts j) [])) (repP parts j)) parts.length z ∧ Below W.heap.size W W'
theorem row_runs {l : List SRow} {nxt : List (List Nat)} (hL : l.map (·.2) = nxt.map runs) {q : Nat} {u : Value} {rs : List (Nat × Nat)} (hq : l[q]? = some (u, rs)) : rs = runs (nxt.getD q []) := by
 have h1 : (l.map (·.2))[q]? = some rs := by rw [List.getElem?_map, hq]; rfl
 rw [hL, List.getElem?_map] at h1
 rw [List.getD_eq_getElem?_getD]
 cases hx : nxt[q]? with
 | none => rw [hx] at h1; cases h1
 | some r => rw [hx] at h1; simpa using h1.symm
theorem dfIn_of (w0 w : World) (base tb bx g3 c3 cs : Nat) (ads : Option Addr) (a0 a1 vk vrows vfin vpts : Value) (l : List SRow) (bs : List Bool) (cl : List Int) (us : List Value) (parts : List (List Nat)) (nxt : List (List Nat)) (ls : List Int)
  (hP : Pt w0 w base tb bx g3 c3 a0 a1 (.slice ads (ls.length + 1) cs) vk vrows vfin vpts l bs cl us parts) (hOK : PartOK (autR bs nxt) (ls.length + 1) l.length (kapN cl) parts)
  (hcl : cl.length = l.length) (hcz : ∀ z ∈ cl, 0 ≤ z ∧ z ≤ 1114112) (hpl : parts.length ≤ 257) (hL : l.map (·.2) = nxt.map runs) (hbl : bs.length = l.length)
  (hS : ∀ q, q < l.length → (nxt.getD q []).length = ls.length + 1 ∧ ∀ a, a < ls.length + 1 → (nxt.getD q []).getD a 0 < l.length) (hm : ls.length ≤ 30) (h0 : 0 < l.length) (hn : l.length ≤ 1114112) (hk : HoldI w vk (cntA ls.length)) :
  ∃ gp cp gf cf, DfIn w tb gp cp gf cf g3 c3 a0 a1 (.slice ads (ls.length + 1) cs) vk vrows bs cl parts nxt ls l.length := by
 have hcz0 : ∀ z ∈ cl, 0 ≤ z := fun z hz => (hcz z hz).1
 have hp0 : 0 < parts.length := by have := hOK.lt 0 h0; omega
 have hul : us.length = parts.length := hP.len
 obtain ⟨gp, cp, hvp⟩ := own_posk hP.pts (by omega)
 obtain ⟨gf, cf, hvf⟩ := own_posk hP.tab.fin (by omega)
 obtain ⟨gr, cr, hvr⟩ := own_posk hP.tab.rows.row (by omega)
 subst hvp hvf hvr
 rw [hul] at hP
 have hpts := hP.pts
 rw [hul] at hpts
 have hrow : ∀ q, q < l.length → ∃ u, l[q]? = some (u, runs (nxt.getD q [])) := by
  intro q hq
  obtain ⟨⟨u, rs⟩, hx⟩ : ∃ x, l[q]? = some x := ⟨l[q], List.getElem?_eq_getElem hq⟩
  exact ⟨u, by rw [hx, row_runs hL hx]⟩
 have hnx : ∀ q, q < l.length → ∀ x ∈ nxt.getD q [], x < l.length := by
  intro q hq x hx
  obtain ⟨j, hj⟩ := List.mem_iff_getElem?.1 hx
  have hjl := (List.getElem?_eq_some_iff.1 hj).1
  have := (hS q hq).2 j (by have := (hS q hq).1; omega)
  rw [List.getD_eq_getElem?_getD (l := nxt.getD q []), hj] at this
  exact this
 have hpart : ∀ c, c < parts.length → ∃ gv ov nv cv, us[c]? = some (.slice (some ⟨gv, ov, none⟩) nv cv) ∧ 0 < nv ∧ gv < w.heap.size ∧ w.cell? ⟨gv, ov, none⟩ = some (.int .i64 ((repP parts c : Nat) : Int)) := by
  intro c hc
  obtain ⟨u, hu⟩ : ∃ u, us[c]? = some u := ⟨us[c], List.getElem?_eq_getElem (by omega)⟩
  have hms := List.getElem?_eq_getElem hc
  obtain ⟨hne, _, _⟩ := hOK.told c _ hms
  obtain ⟨g, off, cap, cur, rfl, h1, _, h3⟩ := hP.hold c u _ hu hms
  have hl0 : 0 < parts[c].length := List.length_pos_iff.2 hne
  refine ⟨g, off, _, cap, hu, by rw [nat2_len]; exact hl0, (Array.getElem?_eq_some_iff.1 h1).1, ?_⟩
  have := h3 0 (by rw [nat2_len]; exact hl0)
  rw [Nat.add_zero, nat2_at _ _ hl0] at this
  rw [this]
  unfold repP
  rw [List.getD_eq_getElem?_getD (l := parts), hms]
  rfl
 refine ⟨gp, cp, gf, cf, ⟨hP.tab.box, fun c hc => ?_, fun q hq => ?_, ?_, fun W hW q hq => ?_, fun W hW q hq v hv => ?_, fun W hW => ?_⟩⟩
 ·obtain ⟨gv, ov, nv, cv, h1, h2, _, h4⟩ := hpart c hc
  exact ⟨gv, ov, nv, cv, own_cellk hpts h1, h2, h4⟩
 ·refine own_cellk hP.tab.fin ?_
  rw [List.getElem?_map, List.getD_eq_getElem?_getD, List.getElem?_eq_getElem (by omega)]
  rfl
 ·have := own_cellk hP.tab.cls (p := 0) (u := .int .i64 (cl.getD 0 0)) (by
   unfold zI
   rw [List.getElem?_map, List.getD_eq_getElem?_getD, List.getElem?_eq_getElem (by omega)]
   rfl)
  rw [this, kap_int hcz0]
 ·obtain ⟨u, hu⟩ := hrow q hq
  have h1 := leads_any base tb q g3 c3 (ls.length + 1) cs ads a0 a1 vk u _ _ _ l bs cl (nxt.getD q []) W (hP.tab.below hW) hu (hS q hq).1 (by omega) (by omega) (fun x hx => by rw [hcl]; exact hnx q hq x hx) hn
  rw [kap_row hcz0] at h1
  exact h1
 ·have hkl : (ksP cl nxt q).length = ls.length + 1 := by unfold ksP; rw [List.length_map, (hS q hq).1]
  have h1 := mostly_any tb parts.length cp (some ⟨gp, 0, none⟩) vk a0 a1 _ _ _ _ v (ksP cl nxt q) (cntA ls.length) W (blko hP.tab.box hW) hv (hk.below hW) (by rw [hkl, cntA_len]; omega) (by omega) (by omega) (cntA_bnd _ (by omega)) (fun c hc => by
   obtain ⟨x, hx, rfl⟩ := List.mem_map.1 hc
   exact hOK.lt x (hnx q hq x hx)) hpl
  rw [best_else hkl hm] at h1
  exact h1
 ·have hr : W.ownsRow w0.heap.size 30 1 (.slice (some ⟨gp, 0, none⟩) us.length cp) us.length us := by
   rw [hul]
   exact own_below hpts hW
  have h1 := partIndex_any tb w0.heap.size gp cp (fun j => deadB bs cl (runs (nxt.getD (repP parts j) [])) (repP parts j)) us W (by omega) hr (fun j u hu => by
   have hj : j < parts.length := by have := (List.getElem?_eq_some_iff.1 hu).1; omega
   obtain ⟨gv, ov, nv, cv, h1, _⟩ := hpart j hj
   rw [hu] at h1
   cases h1
   exact ⟨_, _, _, rfl⟩) (fun W2 j u hW2 hu => by
   have hj : j < parts.length := by have := (List.getElem?_eq_some_iff.1 hu).1; omega
   obtain ⟨gv, ov, nv, cv, h1, h2, h3, h4⟩ := hpart j hj
   rw [hu] at h1
   cases h1
   obtain ⟨r1, r2⟩ := repP_mem hOK hj
   obtain ⟨u2, hu2⟩ := hrow _ r1
   have hW3 : Below w.heap.size w W2 := hW.trans (hW2.mono hW.size)
   have hru := hP.tab.rows.each _ (List.mem_of_getElem? hu2)
   have hrn : runs (nxt.getD (repP parts j) []) ≠ [] := runs_ne_nil (by intro e; have := (hS _ r1).1; rw [e] at this; simp at this)
   obtain ⟨gu, cu, hvu⟩ := own_posk hru (List.length_pos_iff.2 hrn)
   dsimp only at hvu
   subst hvu
   exact deadEnd_any base tb g3 c3 gv ov nv cv gf cf gr cr gu cu (repP parts j) a0 a1 _ vk _ l bs cl (runs (nxt.getD (repP parts j) [])) W2 (hP.tab.below hW3) ((hW3.cell (p := ⟨gv, ov, none⟩) h3).trans h4) h2 hu2 (by
    have := runsFrom_len (nxt.getD (repP parts j) []) none 0
    have h5 := (hS _ r1).1
    show (runsFrom none 0 (nxt.getD (repP parts j) [])).length ≤ _
    omega) (fun s hs => by rw [hcl]; exact hnx _ r1 _ (runs_val hs).1) hbl hcl)
  rw [hul] at h1
  exact h1
end Go.Proofs.YtoinajfliogcdaaDoor

namespace Go.Proofs.YtoinajfliogcdaaDoor
open Go Go.RowKit
set_option linter.unusedVariables false
set_option linter.unusedSimpArgs false
set_option maxRecDepth 100000
theorem exec_loadDfa (W : World) (ρ : Operand → Value) (o : Oper) (x : Operand) (ho : o.op = .load 27 x) (b : Nat) (a : Option Addr) (n c : Nat) (hx : ρ x = .pointer (some ⟨b, 0, none⟩)) (h0 : W.cell? ⟨b, 0, none⟩ = some (.slice a n c)) : (execOp ρ o).run Tryd.prog W = .ok (.value (.agg #[.slice a n c])) W := by
 unfold execOp
 simp only [ho, Instr.loadAt, Instr.sureAddr, hx, Sem.run_bind, Sem.run_pure, Result.andThen_ok]
 go_simp
theorem exec_storeDfa (W : World) (ρ : Operand → Value) (o : Oper) (x y : Operand) (ho : o.op = .store 27 x y) (b : Nat) (a : Option Addr) (n c : Nat) (u : Value) (hx : ρ x = .pointer (some ⟨b, 0, none⟩)) (hy : ρ y = .agg #[.slice a n c]) (h0 : W.cell? ⟨b, 0, none⟩ = some u) (hf : W.frozen? ⟨b, 0, none⟩ = false) : (execOp ρ o).run Tryd.prog W = .ok .skip (W.setCell ⟨b, 0, none⟩ (.slice a n c)) := by
 unfold execOp
 simp only [ho, hx, hy, Sem.run_bind, Sem.run_pure, Result.andThen_ok]
 go_simp
section
variable {ops : Array Oper} {rest : List Oper} {o : Oper} {a : Act} {w : World} {Q : Exit → Act → World → Prop}
theorem wpL_loadDfa (hgd : o.guard = none) (x : Operand) (ho : o.op = .load 27 x) (b : Nat) (s : Option Addr) (n c : Nat) (hx : a.eval x = .pointer (some ⟨b, 0, none⟩)) (h0 : w.cell? ⟨b, 0, none⟩ = some (.slice s n c))
  (h : wpList Tryd.prog ops Q rest (a.put o.dst (.agg #[.slice s n c])) w) : wpList Tryd.prog ops Q (o :: rest) a w := by
 refine wpList_plain hgd fun K hK => ?_
 have := exec_loadDfa w a.eval o x ho b s n c hx h0
 unfold Oper.wp
 simp only [this, Oper.upon]
 exact hK _ _ h
theorem wpL_storeDfa (hgd : o.guard = none) (x y : Operand) (ho : o.op = .store 27 x y) (b : Nat) (s : Option Addr) (n c : Nat) (u : Value) (hx : a.eval x = .pointer (some ⟨b, 0, none⟩)) (hy : a.eval y = .agg #[.slice s n c]) (h0 : w.cell? ⟨b, 0, none⟩ = some u) (hf : w.frozen? ⟨b, 0, none⟩ = false)
  (h : wpList Tryd.prog ops Q rest (a.put o.dst undef) (w.setCell ⟨b, 0, none⟩ (.slice s n c))) : wpList Tryd.prog ops Q (o :: rest) a w := by
 refine wpList_plain hgd fun K hK => ?_
 have := exec_storeDfa w a.eval o x y ho b s n c u hx hy h0 hf
 unfold Oper.wp
 simp only [this, Oper.upon]
 exact hK _ _ h
end
end Go.Proofs.YtoinajfliogcdaaDoor
