import Derived.Test.YtmnfioghhdgciaaDoorWildJ26
import Derived.WalkMore
namespace Go.Proofs.YtmnfioghhdgciaaDoor
open Go Go.RowKit
set_option linter.unusedVariables false
set_option linter.unusedSimpArgs false
set_option maxRecDepth 100000

/-! The class that most characters lead to: (*impl.table).mostly. -/
/-- How many characters among the first i symbols lead to the class c. -/
def cntN (ks : List Nat) (cs : List Int) : Nat → Nat → Int
  | 0, _ => 0
  | i + 1, c => cntN ks cs i c + (if ks.getD i 0 = c then cs.getD i 0 else 0)
def cntL (ks : List Nat) (cs : List Int) (n i : Nat) : List Int := (List.range n).map (cntN ks cs i)
/-- The best class after i rounds. -/
def bestN (ks : List Nat) (cs : List Int) : Nat → Nat
  | 0 => ks.getD 0 0
  | i + 1 => if cntN ks cs ks.length (bestN ks cs i) < cntN ks cs ks.length (ks.getD i 0) then ks.getD i 0 else bestN ks cs i
theorem cntN_bnd {ks : List Nat} {cs : List Int} (hB : ∀ i, 0 ≤ cs.getD i 0 ∧ cs.getD i 0 ≤ 1114112) (c : Nat) : ∀ i, 0 ≤ cntN ks cs i c ∧ cntN ks cs i c ≤ (i : Int) * 1114112
  | 0 => by simp [cntN]
  | i + 1 => by
    have h1 := cntN_bnd hB (ks := ks) c i
    have h2 := hB i
    unfold cntN
    split <;> omega
theorem cntL_zero (ks : List Nat) (cs : List Int) (n : Nat) : cntL ks cs n 0 = List.replicate n 0 := by
  apply List.ext_getElem
  · simp [cntL]
  · intro i h1 h2
    simp [cntL, cntN]
theorem cntL_at {ks : List Nat} {cs : List Int} {n i c : Nat} (hc : c < n) : (zI (cntL ks cs n i))[c]? = some (.int .i64 (cntN ks cs i c)) := by
  unfold zI cntL
  rw [List.getElem?_map, List.getElem?_map, List.getElem?_range hc]
  rfl
theorem cntL_set {ks : List Nat} {cs : List Int} {n i : Nat} : (cntL ks cs n i).set (ks.getD i 0) (cntN ks cs i (ks.getD i 0) + cs.getD i 0) = cntL ks cs n (i + 1) := by
  apply List.ext_getElem
  · simp [cntL]
  · intro j h1 h2
    rw [List.getElem_set]
    simp only [cntL, List.getElem_map, List.getElem_range, cntN]
    by_cases e : ks.getD i 0 = j
    · rw [if_pos e, if_pos e, e]
    · rw [if_neg e, if_neg e, Int.add_zero]
theorem bestN_mem {ks : List Nat} {cs : List Int} (h0 : 0 < ks.length) : ∀ i, i ≤ ks.length → bestN ks cs i ∈ ks
  | 0, _ => by
    unfold bestN
    rw [List.getD_eq_getElem?_getD, List.getElem?_eq_getElem h0]
    exact List.getElem_mem h0
  | i + 1, h => by
    unfold bestN
    split
    · rw [List.getD_eq_getElem?_getD, List.getElem?_eq_getElem (show i < ks.length by omega)]
      exact List.getElem_mem _
    · exact bestN_mem h0 i (by omega)
theorem exec_idxO (W : World) (ρ : Operand → Value) (o : Oper) (x y : Operand) (ho : o.op = .indexAddr 30 x y) (g off X len c : Nat) (hx : ρ x = .slice (some ⟨g, off, none⟩) len c) (hy : ρ y = .int .i64 (X : Int)) (h : X < len) :
    (execOp ρ o).run Tryd.prog W = .ok (.value (.pointer (some ⟨g, off + X, none⟩))) W := by
  have h1 : (0 : Int) ≤ (X : Int) := by omega
  have h2 : (X : Int) < (len : Int) := by omega
  unfold execOp
  simp only [ho, hx, hy, Sem.run_bind, Sem.run_pure, Result.andThen_ok]
  go_simp
theorem exec_loadZ (W : World) (ρ : Operand → Value) (o : Oper) (x : Operand) (ho : o.op = .load 3 x) (b off : Nat) (z : Int) (hx : ρ x = .pointer (some ⟨b, off, none⟩)) (h0 : W.cell? ⟨b, off, none⟩ = some (.int .i64 z)) :
    (execOp ρ o).run Tryd.prog W = .ok (.value (.int .i64 z)) W := by
  unfold execOp
  simp only [ho, hx, Sem.run_bind, Sem.run_pure, Result.andThen_ok]
  go_simp
theorem exec_addI (W : World) (ρ : Operand → Value) (o : Oper) (x y : Operand) (ho : o.op = .binOp .add 3 x y 3) (p q : Int) (hx : ρ x = .int .i64 p) (hy : ρ y = .int .i64 q) (h0 : 0 ≤ p + q) (h1 : p + q ≤ 1000000000) : (execOp ρ o).run Tryd.prog W = .ok (.value (.int .i64 (p + q))) W := by
  unfold execOp
  have hw : IntKind.i64.wrap (p + q) = p + q := IntWalk.i64_in _ ⟨by omega, by omega⟩
  simp only [ho, hx, hy, Sem.run_bind, Sem.run_pure, Result.andThen_ok]
  go_simp
theorem exec_gtrI (W : World) (ρ : Operand → Value) (o : Oper) (x y : Operand) (ho : o.op = .binOp .gtr 3 x y 3) (p q : Int) (hx : ρ x = .int .i64 p) (hy : ρ y = .int .i64 q) : (execOp ρ o).run Tryd.prog W = .ok (.value (.bool (decide (q < p)))) W := by
  unfold execOp
  simp only [ho, hx, hy, Sem.run_bind, Sem.run_pure, Result.andThen_ok]
  go_simp
set_option maxHeartbeats 4000000 in
theorem mostly_any (tb pn pc : Nat) (adp : Option Addr) (vk a0 a1 a2 vrows vfin vcls v : Value) (ks : List Nat) (cs : List Int) (w : World)
    (hbox : w.heap[tb]? = some (.cells #[a0, a1, a2, vk, vrows, vfin, vcls, .slice adp pn pc] 72)) (hv : HoldI w v (nat2 ks)) (hk : HoldI w vk cs) (hkl : ks.length ≤ cs.length) (h0 : 0 < ks.length) (hks : ks.length ≤ 31) (hB : ∀ i, 0 ≤ cs.getD i 0 ∧ cs.getD i 0 ≤ 1114112) (hlt : ∀ c ∈ ks, c < pn) (hpn : pn ≤ 257) :
    Calls Tryd.prog 61 #[.pointer (some ⟨tb, 0, none⟩), v] w fun e w' => e = .returned (.int .i64 ((bestN ks cs ks.length : Nat) : Int)) ∧ Below w.heap.size w w' := by
  obtain ⟨ad, cap, rfl, hc⟩ := hv
  obtain ⟨g, off, rfl, hg, hcells⟩ := hc.resolve_left (fun e => by have := congrArg List.length e; rw [nat2_len] at this; simp at this; subst this; simp at h0)
  obtain ⟨adk, capk, rfl, hck⟩ := hk
  obtain ⟨gk, offk, rfl, hgk, hcellsk⟩ := hck.resolve_left (fun e => by rw [e, List.length_nil] at hkl; omega)
  rw [nat2_len] at *
  have HC : Hid (∀ i, i < ks.length → w.cell? ⟨g, off + i, none⟩ = some (.int .i64 ((ks.getD i 0 : Nat) : Int))) := fun i hi => by
    rw [hcells i hi, nat2_at ks i hi]
  have HK := hidd hcellsk
  have HBx := hidd hbox
  have HBd := hidd hB
  have HLt : Hid (∀ i, i < ks.length → ks.getD i 0 < pn) := fun i hi => by
    rw [List.getD_eq_getElem?_getD, List.getElem?_eq_getElem hi]
    exact hlt _ (List.getElem_mem hi)
  have HBs : Hid (∀ i, i ≤ ks.length → bestN ks cs i < pn) := fun i hi => hlt _ (bestN_mem h0 i hi)
  have b7 := blkc hbox 7
  have hmk := run_makeI pn (by omega)
  have HM : Hid ((w.alloc (.cells (zI (List.replicate pn 0)).toArray 3)).ownsRow w.heap.size 3 1 (.slice (some ⟨w.heap.size, 0, none⟩) pn pn) pn (zI (cntL ks cs pn 0))) := by
    show World.ownsRow _ _ _ _ _ _ _
    rw [cntL_zero]
    exact makeI_own w pn w.heap.size (by omega) (Nat.le_refl _)
  have HBl : Hid (Below w.heap.size w (w.alloc (.cells (zI (List.replicate pn 0)).toArray 3))) := (Below.refl _ _).alloc (Nat.le_refl _) _
  clear hc hck hcells hcellsk hbox hB hlt
  go_enter Tryd.func61, Tryd.ntmps61
  go_wp2_with fail
  clear hmk b7
  generalize w.alloc (.cells (zI (List.replicate pn 0)).toArray 3) = W1 at *
  go_loopw [19] (fun iv wx => ∃ i : Nat, iv = .int .i64 (i : Int) ∧ i ≤ ks.length ∧ wx.ownsRow w.heap.size 3 1 (.slice (some ⟨w.heap.size, 0, none⟩) pn pn) pn (zI (cntL ks cs pn i)) ∧ Below w.heap.size w wx) (fun iv _ => ks.length - (intOf iv).toNat)
  case atStart => exact ⟨0, rfl, Nat.zero_le _, HM.out, HBl.out⟩
  case round =>
    clear HM HBl
    obtain ⟨i, rfl, hi, ho, hb⟩ := hrel
    have HO := hidd ho
    have HB := hidd hb
    by_cases hil : i < ks.length
    · have hilz : (i : Int) < (ks.length : Int) := by omega
      have c1 := (hb.cell (p := ⟨g, off + i, none⟩) hg).trans (HC.out i hil)
      have HKl := hidd (HLt.out i hil)
      have hicz : i < cs.length := by omega
      have c3 : wr.cell? ⟨tb, 3, none⟩ = some (.slice (some ⟨gk, offk, none⟩) cs.length capk) := blkc ((hb.block tb (Array.getElem?_eq_some_iff.1 HBx.out).1).trans HBx.out) 3
      have c4 := (hb.cell (p := ⟨gk, offk + i, none⟩) hgk).trans (HK.out i hicz)
      have H3 := hidd c3
      have H4 := hidd c4
      clear c3 c4 ho hb
      obtain ⟨k, hkk⟩ : ∃ k, k = ks.getD i 0 := ⟨_, rfl⟩
      rw [← hkk] at c1 HKl
      have HKK := hidd hkk
      clear hkk
      have hkp := HKl.out
      go_upto_region 5 with fail
      clear c1
      refine wp_region_held (S := fun u => u.cell? ⟨tb, 3, none⟩ = some (.slice (some ⟨gk, offk, none⟩) cs.length capk) ∧ u.cell? ⟨gk, offk + i, none⟩ = some (.int .i64 (cs.getD i 0))) (by kernel_rfl) ?_
      have hbd : Below wr.heap.size wr ({ heap := wr.heap, tape := wr.tape, drawn := wr.drawn + 1, os := wr.os, output := wr.output } : World) := (Below.refl _ _).drew
      generalize ({ heap := wr.heap, tape := wr.tape, drawn := wr.drawn + 1, os := wr.os, output := wr.output } : World) = Wd at *
      have hod : Wd.ownsRow w.heap.size 3 1 (.slice (some ⟨w.heap.size, 0, none⟩) pn pn) pn (zI (cntL ks cs pn i)) := own_congr HO.out (fun b hk => hbd.block b (Array.getElem?_eq_some_iff.1 (own_blk HO.out hk).2.choose_spec).1)
      have hwz := HB.out.size
      have hSd : (fun u => u.cell? ⟨tb, 3, none⟩ = some (.slice (some ⟨gk, offk, none⟩) cs.length capk) ∧ u.cell? ⟨gk, offk + i, none⟩ = some (.int .i64 (cs.getD i 0))) Wd := ⟨(hbd.cell (p := ⟨tb, 3, none⟩) (cell_lt H3.out)).trans H3.out, (hbd.cell (p := ⟨gk, offk + i, none⟩) (cell_lt H4.out)).trans H4.out⟩
      have hcb := cntN_bnd (ks := ks) HBd.out k i
      have hcz := HBd.out i
      try simp only [Act.put, List.getElem_toArray, List.getElem_cons_succ, List.getElem_cons_zero, List.setIfInBounds_toArray, List.set_cons_zero, List.set_cons_succ]
      refine tkX 0 (hS := hSd) (h := ?_)
      try simp only [Act.put, List.getElem_toArray, List.getElem_cons_succ, List.getElem_cons_zero, List.setIfInBounds_toArray, List.set_cons_zero, List.set_cons_succ]
      refine tkX 1 (hS := hSd) (h := ?_)
      try simp only [Act.put, List.getElem_toArray, List.getElem_cons_succ, List.getElem_cons_zero, List.setIfInBounds_toArray, List.set_cons_zero, List.set_cons_succ]
      refine wpAnyH_take (i := 2) (v := .pointer (some ⟨w.heap.size, k, none⟩)) rfl (by kernel_rfl) (by kernel_rfl) (by kernel_rfl) (fun _ _ _ h => h) (Or.inl ⟨by kernel_rfl, fun W hW => exec_idxI W _ _ _ _ rfl w.heap.size k pn pn (by kernel_rfl) (by kernel_rfl) hkp⟩) hSd ?_
      try simp only [Act.put, List.getElem_toArray, List.getElem_cons_succ, List.getElem_cons_zero, List.setIfInBounds_toArray, List.set_cons_zero, List.set_cons_succ]
      refine tkX 4 (hS := hSd) (h := ?_)
      try simp only [Act.put, List.getElem_toArray, List.getElem_cons_succ, List.getElem_cons_zero, List.setIfInBounds_toArray, List.set_cons_zero, List.set_cons_succ]
      refine tkX 5 (hS := hSd) (h := ?_)
      try simp only [Act.put, List.getElem_toArray, List.getElem_cons_succ, List.getElem_cons_zero, List.setIfInBounds_toArray, List.set_cons_zero, List.set_cons_succ]
      refine tkX 6 (hS := hSd) (h := ?_)
      try simp only [Act.put, List.getElem_toArray, List.getElem_cons_succ, List.getElem_cons_zero, List.setIfInBounds_toArray, List.set_cons_zero, List.set_cons_succ]
      refine tkX 7 (hS := hSd) (h := ?_)
      try simp only [Act.put, List.getElem_toArray, List.getElem_cons_succ, List.getElem_cons_zero, List.setIfInBounds_toArray, List.set_cons_zero, List.set_cons_succ]
      refine tkX 8 (v := .slice (some ⟨gk, offk, none⟩) cs.length capk) (hS := hSd) (h := ?_)
      try simp only [Act.put, List.getElem_toArray, List.getElem_cons_succ, List.getElem_cons_zero, List.setIfInBounds_toArray, List.set_cons_zero, List.set_cons_succ]
      refine tkX 9 (hS := hSd) (h := ?_)
      try simp only [Act.put, List.getElem_toArray, List.getElem_cons_succ, List.getElem_cons_zero, List.setIfInBounds_toArray, List.set_cons_zero, List.set_cons_succ]
      refine wpAnyH_take (i := 10) (v := .pointer (some ⟨gk, offk + i, none⟩)) rfl (by kernel_rfl) (by kernel_rfl) (by kernel_rfl) (fun _ _ _ h => h) (Or.inl ⟨by kernel_rfl, fun W hW => exec_idxO W _ _ _ _ rfl gk offk i cs.length capk (by kernel_rfl) (by kernel_rfl) hicz⟩) hSd ?_
      try simp only [Act.put, List.getElem_toArray, List.getElem_cons_succ, List.getElem_cons_zero, List.setIfInBounds_toArray, List.set_cons_zero, List.set_cons_succ]
      refine tkX 11 (v := .int .i64 (cs.getD i 0)) (hS := hSd) (h := ?_)
      try simp only [Act.put, List.getElem_toArray, List.getElem_cons_succ, List.getElem_cons_zero, List.setIfInBounds_toArray, List.set_cons_zero, List.set_cons_succ]
      refine wpAnyH_one 3 (by kernel_rfl) ?_
      refine wpOp_val _ _ rfl (by kernel_rfl) (exec_loadZ _ _ _ _ rfl w.heap.size k (cntN ks cs i k) (by kernel_rfl) (own_cellk hod (cntL_at hkp))) ?_
      refine ⟨hSd, ?_⟩
      try simp only [Act.put, List.getElem_toArray, List.getElem_cons_succ, List.getElem_cons_zero, List.setIfInBounds_toArray, List.set_cons_zero, List.set_cons_succ]
      refine wpAnyH_take (i := 12) (v := .int .i64 (cntN ks cs i k + cs.getD i 0)) rfl (by kernel_rfl) (by kernel_rfl) (by kernel_rfl) (fun _ _ _ h => h) (Or.inl ⟨by kernel_rfl, fun W hW => exec_addI W _ _ _ _ rfl _ _ (by kernel_rfl) (by kernel_rfl) (by omega) (by omega)⟩) hSd ?_
      try simp only [Act.put, List.getElem_toArray, List.getElem_cons_succ, List.getElem_cons_zero, List.setIfInBounds_toArray, List.set_cons_zero, List.set_cons_succ]
      refine wpAnyH_take (i := 13) (v := .pointer (some ⟨w.heap.size, k, none⟩)) rfl (by kernel_rfl) (by kernel_rfl) (by kernel_rfl) (fun _ _ _ h => h) (Or.inl ⟨by kernel_rfl, fun W hW => exec_idxI W _ _ _ _ rfl w.heap.size k pn pn (by kernel_rfl) (by kernel_rfl) hkp⟩) hSd ?_
      try simp only [Act.put, List.getElem_toArray, List.getElem_cons_succ, List.getElem_cons_zero, List.setIfInBounds_toArray, List.set_cons_zero, List.set_cons_succ]
      refine wpAnyH_one 14 (by kernel_rfl) ?_
      refine wpOp_skip _ rfl (by kernel_rfl) (exec_storeZ _ _ _ _ _ rfl w.heap.size k (cntN ks cs i k + cs.getD i 0) _ (by kernel_rfl) (by kernel_rfl) (own_cellk hod (cntL_at hkp)) (own_frozenk hod k)) ?_
      have hbS : Below w.heap.size w (Wd.setCell ⟨w.heap.size, k, none⟩ (.int .i64 (cntN ks cs i k + cs.getD i 0))) := (HB.out.trans (hbd.mono hwz)).trans (((But.refl (fun b => b = w.heap.size) Wd).set w.heap.size k _ rfl).below (Nat.le_trans hwz hbd.size) (fun j hj e => by omega))
      refine ⟨⟨blkc ((hbS.block tb (Array.getElem?_eq_some_iff.1 HBx.out).1).trans HBx.out) 3, (hbS.cell (p := ⟨gk, offk + i, none⟩) hgk).trans (HK.out i hicz)⟩, ?_⟩
      try simp only [Act.put, List.getElem_toArray, List.getElem_cons_succ, List.getElem_cons_zero, List.setIfInBounds_toArray, List.set_cons_zero, List.set_cons_succ]
      refine wpAnyH_done (by kernel_rfl) ?_ _
      have HOn : Hid ((Wd.setCell ⟨w.heap.size, k, none⟩ (.int .i64 (cntN ks cs i k + cs.getD i 0))).ownsRow w.heap.size 3 1 (.slice (some ⟨w.heap.size, 0, none⟩) pn pn) pn (zI (cntL ks cs pn (i + 1)))) := by
        have h := own_setI hod hkp (cntN ks cs i k + cs.getD i 0)
        rw [HKK.out] at h ⊢
        rw [← cntL_set]
        exact h
      have HBn := hidd hbS
      clear hbS hcb hcz hSd hod hbd HO HB
      generalize Wd.setCell ⟨w.heap.size, k, none⟩ (.int .i64 (cntN ks cs i k + cs.getD i 0)) = W2 at *
      go_wp2_with fail
      go_roundw
      case rel => exact ⟨i + 1, by go_num, by omega, HOn.out, HBn.out⟩
      case measure => simp [intOf]; omega
    · have hilz : ¬ (i : Int) < (ks.length : Int) := by omega
      obtain rfl : i = ks.length := by omega
      have HBs0 := HBs.out 0 (Nat.zero_le _)
      have c0 := (hb.cell (p := ⟨g, off + 0, none⟩) hg).trans (HC.out 0 h0)
      have HBs' : Hid (bestN ks cs 0 = ks.getD 0 0) := rfl
      rw [← HBs'.out] at c0
      rw [Nat.add_zero] at c0
      have h0z : (0 : Int) < (ks.length : Int) := by omega
      clear ho hb hilz hi
      go_wp2_with fail
      clear c0
      go_loopw [8, 44] (fun bv iv wx => ∃ i : Nat, iv = .int .i64 (i : Int) ∧ i ≤ ks.length ∧ bv = .int .i64 ((bestN ks cs i : Nat) : Int) ∧ wx.ownsRow w.heap.size 3 1 (.slice (some ⟨w.heap.size, 0, none⟩) pn pn) pn (zI (cntL ks cs pn ks.length)) ∧ Below w.heap.size w wx) (fun _ iv _ => ks.length - (intOf iv).toNat)
      case atStart => exact ⟨0, rfl, Nat.zero_le _, rfl, HO.out, HB.out⟩
      case round =>
        clear HO HB
        obtain ⟨i, rfl, hi, rfl, ho, hb⟩ := hrel
        have HO := hidd ho
        have HB := hidd hb
        clear ho hb
        by_cases hil : i < ks.length
        · have hilz : (i : Int) < (ks.length : Int) := by omega
          have c1 := (HB.out.cell (p := ⟨g, off + i, none⟩) hg).trans (HC.out i hil)
          have hkp := HLt.out i hil
          have hbp := HBs.out i hi
          have e1 := hidd (own_cellk HO.out (cntL_at (ks := ks) (cs := cs) (i := ks.length) hkp))
          have e2 := hidd (own_cellk HO.out (cntL_at (ks := ks) (cs := cs) (i := ks.length) hbp))
          have HSt : Hid (bestN ks cs (i + 1) = if cntN ks cs ks.length (bestN ks cs i) < cntN ks cs ks.length (ks.getD i 0) then ks.getD i 0 else bestN ks cs i) := rfl
          generalize bestN ks cs i = B at *
          generalize ks.getD i 0 = k at *
          generalize cntN ks cs ks.length B = y at *
          generalize cntN ks cs ks.length k = x at *
          have hkz : (k : Int) < (pn : Int) := by omega
          have hbz : (B : Int) < (pn : Int) := by omega
          go_upto_region 11 with fail
          clear c1
          refine wp_region_held (S := fun u => u.cell? ⟨w.heap.size, k, none⟩ = some (.int .i64 x) ∧ u.cell? ⟨w.heap.size, B, none⟩ = some (.int .i64 y)) (by kernel_rfl) ?_
          have hbd : Below wr.heap.size wr ({ heap := wr.heap, tape := wr.tape, drawn := wr.drawn + 1, os := wr.os, output := wr.output } : World) := (Below.refl _ _).drew
          generalize ({ heap := wr.heap, tape := wr.tape, drawn := wr.drawn + 1, os := wr.os, output := wr.output } : World) = Wd at *
          have hod : Wd.ownsRow w.heap.size 3 1 (.slice (some ⟨w.heap.size, 0, none⟩) pn pn) pn (zI (cntL ks cs pn ks.length)) := own_congr HO.out (fun b hk => hbd.block b (Array.getElem?_eq_some_iff.1 (own_blk HO.out hk).2.choose_spec).1)
          have hwz := HB.out.size
          have hSd : (fun u => u.cell? ⟨w.heap.size, k, none⟩ = some (.int .i64 x) ∧ u.cell? ⟨w.heap.size, B, none⟩ = some (.int .i64 y)) Wd := ⟨(hbd.cell (p := ⟨w.heap.size, k, none⟩) (cell_lt e1.out)).trans e1.out, (hbd.cell (p := ⟨w.heap.size, B, none⟩) (cell_lt e2.out)).trans e2.out⟩
          try simp only [Act.put, List.getElem_toArray, List.getElem_cons_succ, List.getElem_cons_zero, List.setIfInBounds_toArray, List.set_cons_zero, List.set_cons_succ]
          refine tkX 0 (hS := hSd) (h := ?_)
          try simp only [Act.put, List.getElem_toArray, List.getElem_cons_succ, List.getElem_cons_zero, List.setIfInBounds_toArray, List.set_cons_zero, List.set_cons_succ]
          refine tkX 1 (hS := hSd) (h := ?_)
          try simp only [Act.put, List.getElem_toArray, List.getElem_cons_succ, List.getElem_cons_zero, List.setIfInBounds_toArray, List.set_cons_zero, List.set_cons_succ]
          refine wpAnyH_take (i := 2) (v := .pointer (some ⟨w.heap.size, k, none⟩)) rfl (by kernel_rfl) (by kernel_rfl) (by kernel_rfl) (fun _ _ _ h => h) (Or.inl ⟨by kernel_rfl, fun W hW => exec_idxI W _ _ _ _ rfl w.heap.size k pn pn (by kernel_rfl) (by kernel_rfl) hkp⟩) hSd ?_
          try simp only [Act.put, List.getElem_toArray, List.getElem_cons_succ, List.getElem_cons_zero, List.setIfInBounds_toArray, List.set_cons_zero, List.set_cons_succ]
          refine tkX 3 (v := .int .i64 x) (hS := hSd) (h := ?_)
          try simp only [Act.put, List.getElem_toArray, List.getElem_cons_succ, List.getElem_cons_zero, List.setIfInBounds_toArray, List.set_cons_zero, List.set_cons_succ]
          refine tkX 4 (hS := hSd) (h := ?_)
          try simp only [Act.put, List.getElem_toArray, List.getElem_cons_succ, List.getElem_cons_zero, List.setIfInBounds_toArray, List.set_cons_zero, List.set_cons_succ]
          refine tkX 5 (hS := hSd) (h := ?_)
          try simp only [Act.put, List.getElem_toArray, List.getElem_cons_succ, List.getElem_cons_zero, List.setIfInBounds_toArray, List.set_cons_zero, List.set_cons_succ]
          refine wpAnyH_take (i := 6) (v := .pointer (some ⟨w.heap.size, B, none⟩)) rfl (by kernel_rfl) (by kernel_rfl) (by kernel_rfl) (fun _ _ _ h => h) (Or.inl ⟨by kernel_rfl, fun W hW => exec_idxI W _ _ _ _ rfl w.heap.size B pn pn (by kernel_rfl) (by kernel_rfl) hbp⟩) hSd ?_
          try simp only [Act.put, List.getElem_toArray, List.getElem_cons_succ, List.getElem_cons_zero, List.setIfInBounds_toArray, List.set_cons_zero, List.set_cons_succ]
          refine tkX 7 (v := .int .i64 y) (hS := hSd) (h := ?_)
          try simp only [Act.put, List.getElem_toArray, List.getElem_cons_succ, List.getElem_cons_zero, List.setIfInBounds_toArray, List.set_cons_zero, List.set_cons_succ]
          refine wpAnyH_take (i := 8) (v := .bool (decide (y < x))) rfl (by kernel_rfl) (by kernel_rfl) (by kernel_rfl) (fun _ _ _ h => h) (Or.inl ⟨by kernel_rfl, fun W hW => exec_gtrI W _ _ _ _ rfl x y (by kernel_rfl) (by kernel_rfl)⟩) hSd ?_
          try simp only [Act.put, List.getElem_toArray, List.getElem_cons_succ, List.getElem_cons_zero, List.setIfInBounds_toArray, List.set_cons_zero, List.set_cons_succ]
          refine wpAnyH_done (by kernel_rfl) ?_ _
          have HOn := hidd hod
          have HBn : Hid (Below w.heap.size w Wd) := HB.out.trans (hbd.mono hwz)
          clear hod hSd hbd HO HB e1 e2
          by_cases hcmp : y < x
          · have HSn : Hid (bestN ks cs (i + 1) = k) := by
              show _ = _
              rw [HSt.out, if_pos hcmp]
            rw [decide_eq_true hcmp]
            clear HSt hcmp
            go_wp2_with fail
            go_roundw
            case rel => exact ⟨i + 1, by go_num, by omega, by rw [HSn.out], HOn.out, HBn.out⟩
            case measure => simp [intOf]; omega
          · have HSn : Hid (bestN ks cs (i + 1) = B) := by
              show _ = _
              rw [HSt.out, if_neg hcmp]
            rw [decide_eq_false hcmp]
            clear HSt hcmp
            go_wp2_with fail
            go_roundw
            case rel => exact ⟨i + 1, by go_num, by omega, by rw [HSn.out], HOn.out, HBn.out⟩
            case measure => simp [intOf]; omega
        · have hilz : ¬ (i : Int) < (ks.length : Int) := by omega
          obtain rfl : i = ks.length := by omega
          go_wp2_with fail
          go_ret
          exact ⟨rfl, HB.out⟩
end Go.Proofs.YtmnfioghhdgciaaDoor
