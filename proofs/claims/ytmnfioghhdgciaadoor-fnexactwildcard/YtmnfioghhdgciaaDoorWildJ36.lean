import Derived.Test.YtmnfioghhdgciaaDoorWildJ35
import Derived.Test.YtmnfioghhdgciaaDoorWildJ16
import Derived.Test.YtmnfioghhdgciaaDoorWildJ14
import Derived.WalkMore
namespace Go.Proofs.YtmnfioghhdgciaaDoor
open Go Go.RowKit
set_option linter.unusedVariables false
set_option linter.unusedSimpArgs false
set_option maxRecDepth 100000

/-! impl.wildcardOf: its memory. -/
def zU (l : List Nat) : List Value := l.map fun (x : Nat) => Value.int .u64 (x : Int)
theorem zU_snoc (l : List Nat) (x : Nat) : zU (l ++ [x]) = zU l ++ [.int .u64 (x : Int)] := by simp [zU]
structure Wf (w W : World) (T : List Int) (L : Nat) (vs vc : Value) (Cl : List Nat) : Prop where
  rb : W.heap[w.heap.size]? = some (.cells (wcV nilS 0 nilS) 46)
  wb : W.heap[w.heap.size + 1]? = some (.cells (wcV vs L vc) 46)
  s : W.ownsRow w.heap.size 3 1 vs T.length (zI T)
  c : W.ownsRow w.heap.size 43 1 vc Cl.length (zU Cl)
  bel : Below w.heap.size w W
section
variable {w W W1 : World} {T : List Int} {L : Nat} {vs vc : Value} {Cl : List Nat}
theorem Wf.below (h : Wf w W T L vs vc Cl) (hb : Below W.heap.size W W1) : Wf w W1 T L vs vc Cl :=
  ⟨blko h.rb hb, blko h.wb hb, own_congr h.s (fun b hk => hb.block b (Array.getElem?_eq_some_iff.1 (own_blk h.s hk).2.choose_spec).1), own_congr h.c (fun b hk => hb.block b (Array.getElem?_eq_some_iff.1 (own_blk h.c hk).2.choose_spec).1), h.bel.trans (hb.mono h.bel.size)⟩
theorem Wf.setL (h : Wf w W T L vs vc Cl) (L' : Nat) : Wf w (W.setCell ⟨w.heap.size + 1, 1, none⟩ (.int .u64 (L' : Int))) T L' vs vc Cl := by
  have at_ : ∀ (b : Nat), b ≠ w.heap.size + 1 → (W.setCell ⟨w.heap.size + 1, 1, none⟩ (.int .u64 (L' : Int))).heap[b]? = W.heap[b]? := fun b hb => heap_set_other _ _ _ _ _ hb
  refine ⟨(at_ _ (by omega)).trans h.rb, ?_, own_congr h.s (fun b hk => at_ b ?_), own_congr h.c (fun b hk => at_ b ?_), h.bel.setCell (by show w.heap.size ≤ w.heap.size + 1; omega) _⟩
  · have := blk_setk h.wb 1 (.int .u64 (L' : Int))
    simpa using this
  · obtain ⟨_, cur, h2⟩ := own_blk h.s hk
    exact blk_ne h2 h.wb (by decide)
  · obtain ⟨_, cur, h2⟩ := own_blk h.c hk
    exact blk_ne h2 h.wb (by decide)
theorem Wf.pushS (h : Wf w W T L vs vc Cl) {v' : Value} {x : Int} (hb : But (fun b => vs.ownBlock = some b) W W1) (ho : W1.ownsRow w.heap.size 3 1 v' (T.length + 1) (zI T ++ [.int .i64 x])) :
    Wf w (W1.setCell ⟨w.heap.size + 1, 0, none⟩ v') (T ++ [x]) L v' vc Cl ∧ W1.heap[w.heap.size + 1]? = some (.cells (wcV vs L vc) 46) := by
  have at1 : ∀ (b : Nat) (cs : Array Value) (t : TypeId), t ≠ 3 → W.heap[b]? = some (.cells cs t) → W1.heap[b]? = some (.cells cs t) := by
    intro b cs t ht hh
    rw [hb.block b (Array.getElem?_eq_some_iff.1 hh).1 (fun hx => ?_)]
    · exact hh
    · obtain ⟨_, cur, h2⟩ := own_blk h.s hx
      rw [hh] at h2
      simp only [Option.some.injEq, Obj.cells.injEq] at h2
      exact ht h2.2.1
  have hwb := at1 _ _ _ (by decide) h.wb
  have at_ : ∀ (b : Nat), b ≠ w.heap.size + 1 → (W1.setCell ⟨w.heap.size + 1, 0, none⟩ v').heap[b]? = W1.heap[b]? := fun b hb => heap_set_other _ _ _ _ _ hb
  have hbl : Below w.heap.size w W1 := h.bel.trans (hb.below h.bel.size (fun j hj e => by have := (own_blk h.s e).1; omega))
  refine ⟨⟨(at_ _ (by omega)).trans (at1 _ _ _ (by decide) h.rb), ?_, ?_, ?_, hbl.setCell (by show w.heap.size ≤ w.heap.size + 1; omega) _⟩, hwb⟩
  · have := blk_setk hwb 0 v'
    simpa using this
  · rw [List.length_append, List.length_singleton, zI_snoc]
    refine own_congr ho (fun b hk => at_ b ?_)
    obtain ⟨_, cur, h2⟩ := own_blk ho hk
    exact blk_ne h2 hwb (by decide)
  · refine own_congr h.c (fun b hk => ?_)
    obtain ⟨_, cur, h2⟩ := own_blk h.c hk
    have h3 := at1 _ _ _ (by decide) h2
    rw [at_ b (blk_ne h3 hwb (by decide)), h3, h2]
theorem Wf.pushC (h : Wf w W T L vs vc Cl) {v' : Value} {x : Nat} (hb : But (fun b => vc.ownBlock = some b) W W1) (ho : W1.ownsRow w.heap.size 43 1 v' (Cl.length + 1) (zU Cl ++ [.int .u64 (x : Int)])) :
    Wf w (W1.setCell ⟨w.heap.size + 1, 2, none⟩ v') T L vs v' (Cl ++ [x]) ∧ W1.heap[w.heap.size + 1]? = some (.cells (wcV vs L vc) 46) := by
  have at1 : ∀ (b : Nat) (cs : Array Value) (t : TypeId), t ≠ 43 → W.heap[b]? = some (.cells cs t) → W1.heap[b]? = some (.cells cs t) := by
    intro b cs t ht hh
    rw [hb.block b (Array.getElem?_eq_some_iff.1 hh).1 (fun hx => ?_)]
    · exact hh
    · obtain ⟨_, cur, h2⟩ := own_blk h.c hx
      rw [hh] at h2
      simp only [Option.some.injEq, Obj.cells.injEq] at h2
      exact ht h2.2.1
  have hwb := at1 _ _ _ (by decide) h.wb
  have at_ : ∀ (b : Nat), b ≠ w.heap.size + 1 → (W1.setCell ⟨w.heap.size + 1, 2, none⟩ v').heap[b]? = W1.heap[b]? := fun b hb => heap_set_other _ _ _ _ _ hb
  have hbl : Below w.heap.size w W1 := h.bel.trans (hb.below h.bel.size (fun j hj e => by have := (own_blk h.c e).1; omega))
  refine ⟨⟨(at_ _ (by omega)).trans (at1 _ _ _ (by decide) h.rb), ?_, ?_, ?_, hbl.setCell (by show w.heap.size ≤ w.heap.size + 1; omega) _⟩, hwb⟩
  · have := blk_setk hwb 2 v'
    simpa using this
  · refine own_congr h.s (fun b hk => ?_)
    obtain ⟨_, cur, h2⟩ := own_blk h.s hk
    have h3 := at1 _ _ _ (by decide) h2
    rw [at_ b (blk_ne h3 hwb (by decide)), h3, h2]
  · rw [List.length_append, List.length_singleton, zU_snoc]
    refine own_congr ho (fun b hk => at_ b ?_)
    obtain ⟨_, cur, h2⟩ := own_blk ho hk
    exact blk_ne h2 hwb (by decide)
end
theorem Tryd.infoU64 : (Tryd.prog.info? 43).map (fun i => (i.zero, i.size, i.bytes)) = some (some (.int .u64 0), 1, 8) := by kernel_rfl
theorem exec_loadUs (W : World) (ρ : Operand → Value) (o : Oper) (x : Operand) (ho : o.op = .load 44 x) (b off : Nat) (v : Value) (hx : ρ x = .pointer (some ⟨b, off, none⟩)) (h0 : W.cell? ⟨b, off, none⟩ = some v) : (execOp ρ o).run Tryd.prog W = .ok (.value v) W := by
  unfold execOp
  simp only [ho, Instr.loadAt, Instr.sureAddr, hx, Sem.run_bind, Sem.run_pure, Result.andThen_ok]
  go_simp
theorem exec_loadW (W : World) (ρ : Operand → Value) (o : Oper) (x : Operand) (ho : o.op = .load 46 x) (b : Nat) (a1 a2 : Option Addr) (n1 c1 n2 c2 : Nat) (L : Int) (hx : ρ x = .pointer (some ⟨b, 0, none⟩)) (h0 : W.cell? ⟨b, 0, none⟩ = some (.slice a1 n1 c1)) (h1 : W.cell? ⟨b, 1, none⟩ = some (.int .u64 L)) (h2 : W.cell? ⟨b, 2, none⟩ = some (.slice a2 n2 c2)) :
    (execOp ρ o).run Tryd.prog W = .ok (.value (.agg #[.slice a1 n1 c1, .int .u64 L, .slice a2 n2 c2])) W := by
  unfold execOp
  simp only [ho, Instr.loadAt, Instr.sureAddr, hx, Sem.run_bind, Sem.run_pure, Result.andThen_ok]
  go_simp
theorem exec_buildU (W : World) (ρ : Operand → Value) (o : Oper) (y : Operand) (ho : o.op = .buildSlice 44 1 #[(0, y)]) (c : Int) (hx : ρ y = .int .u64 c) :
    (execOp ρ o).run Tryd.prog W = .ok (.value (.slice (some ⟨W.heap.size, 0, none⟩) 1 1)) (W.alloc (.cells #[.int .u64 c] 43)) := by
  unfold execOp
  simp only [ho, hx, Sem.run_bind, Sem.run_pure, Result.andThen_ok]
  go_simp
theorem exec_storeUs (W : World) (ρ : Operand → Value) (o : Oper) (x y : Operand) (ho : o.op = .store 44 x y) (b off g n c : Nat) (u : Value) (hx : ρ x = .pointer (some ⟨b, off, none⟩)) (hy : ρ y = .slice (some ⟨g, 0, none⟩) n c) (hc : W.cell? ⟨b, off, none⟩ = some u) (hf : W.frozen? ⟨b, off, none⟩ = false) :
    (execOp ρ o).run Tryd.prog W = .ok .skip (W.setCell ⟨b, off, none⟩ (.slice (some ⟨g, 0, none⟩) n c)) := by
  unfold execOp
  simp only [ho, Instr.storeAt, Instr.sureAddr, hx, hy, Sem.run_bind, Sem.run_pure, Result.andThen_ok]
  go_simp
theorem wpOp_pushU {W : World} {ops : Array Oper} {i : Nat} {o : Oper} {a : Act} {K : Act → World → Prop} {Q : Exit → Act → World → Prop} (hio : ops[i]? = some o) (hw : Region.wanted o (yielded ops a.tmps) = true) (hgd : o.guard = none) (s x : Operand)
    (ho : o.op = .call { callee := .builtin .append, args := #[s, x], argTypes := #[44, 44] }) (i0 : TypeInfo) (hi : Tryd.prog.info? 43 = some i0) (hz : i0.zero = some (.int .u64 0)) (hsize : i0.size = 1) (hby : i0.bytes = 8)
    (base : Nat) (v : Value) (n : Nat) (xs : List Value) (hs : a.eval s = v) (hown : W.ownsRow base 43 1 v n xs) (c : Int) (ad : Nat) (had : ad = W.heap.size) (hx : a.eval x = .slice (some ⟨ad, 0, none⟩) 1 1) (hb : (n + 1) * 8 ≤ 140737488355328) (hbase : base ≤ W.heap.size)
    (h : ∀ g cap w', w'.ownsRow base 43 1 (.slice (some ⟨g, 0, none⟩) (n + 1) cap) (n + 1) (xs ++ [.int .u64 c]) → But (fun b => v.ownBlock = some b) W w' → (∀ b, (Value.slice (some ⟨g, 0, none⟩) (n + 1) cap).ownBlock = some b → v.ownBlock = some b ∨ W.heap.size ≤ b) → K (a.put o.dst (.slice (some ⟨g, 0, none⟩) (n + 1) cap)) w') :
    wpOp Tryd.prog ops Q i K a (W.alloc (.cells #[.int .u64 c] 43)) := by
  refine wpOp_wp hio hw ?_
  have := step_pushk (ops := ops) (E := True) (Q := Q) hgd s x 44 43 ho i0 (.int .u64 0) 1 8 Tryd.underlying44 hi hz hsize hby rfl (by decide) base v n xs hs hown #[.int .u64 c] rfl (by intro y hy; simp at hy; subst hy; rfl) ad had hx hb (by decide) hbase h
  rwa [if_pos hw] at this
end Go.Proofs.YtmnfioghhdgciaaDoor

namespace Go.Proofs.YtmnfioghhdgciaaDoor
open Go Go.RowKit
set_option linter.unusedVariables false
set_option linter.unusedSimpArgs false
set_option maxRecDepth 100000

/-! impl.wildcardOf. -/
theorem lpN_lt {Q : List Int} (h : (stW Q).length ≤ 30) : lpN Q < 2147483648 := by
  unfold lpN
  exact Nat.lt_of_lt_of_le (bset_lt _ _) (pow31 (Nat.le_refl _) (by omega))
theorem stW_len (Q : List Int) : (stW Q).length ≤ Q.length := List.length_filter_le _ _
def CvOK (T : List Int) (L : Nat) (Cl : List Nat) : Prop := ∀ j, j < Cl.length → Cl.getD j 0 < 2147483648 ∧ ∀ q, (Cl.getD j 0).testBit q = true ↔ Cov T L.testBit j q
theorem CvOK.push {T : List Int} {L : Nat} {Cl : List Nat} (h : CvOK T L Cl) {c : Nat} (h1 : c < 2147483648) (h2 : ∀ q, c.testBit q = true ↔ Cov T L.testBit Cl.length q) : CvOK T L (Cl ++ [c]) := by
  intro j hj
  rw [List.length_append, List.length_singleton] at hj
  by_cases e : j = Cl.length
  · subst e
    have : (Cl ++ [c]).getD Cl.length 0 = c := by simp [List.getD_eq_getElem?_getD]
    rw [this]
    exact ⟨h1, h2⟩
  · have : (Cl ++ [c]).getD j 0 = Cl.getD j 0 := by
      rw [List.getD_eq_getElem?_getD, List.getElem?_append_left (by omega), ← List.getD_eq_getElem?_getD]
    rw [this]
    exact h j (by omega)
def WfPost (Q : List Int) (w : World) (e : Ending) (w' : World) : Prop :=
  ∃ vs vc Cl, e = .returned (.agg (wcV vs (lpN Q) vc)) ∧ w'.ownsRow w.heap.size 3 1 vs (stW Q).length (zI (stW Q)) ∧ w'.ownsRow w.heap.size 43 1 vc Cl.length (zU Cl) ∧ Cl.length = (stW Q).length ∧ CvOK (stW Q) (lpN Q) Cl ∧ Below w.heap.size w w'
set_option maxHeartbeats 8000000 in
theorem wildcardOf_any (v : Value) (Q : List Int) (w : World) (hQ : Q.length ≤ 30) (h : HoldI w v Q) (hT : TabAt (Tryd.laysTz_ren.g 1) Lib.deBruijn64tab w) :
    Calls Tryd.prog 18 #[v] w (WfPost Q w) := by
  obtain ⟨i0, hi, hz0, hz1, hz2⟩ := info_parts Tryd.infoIntL
  obtain ⟨iu, hiu, hu0, hu1, hu2⟩ := info_parts Tryd.infoU64
  obtain ⟨ad, cap, rfl, hc⟩ := h
  have HC := hidd hc
  have HTb := hidd hT
  obtain ⟨s1, s2, s3, -⟩ := two_boxes w (.cells (wcV nilS 0 nilS) 46) (.cells (wcV nilS 0 nilS) 46)
  have HW0 : Hid (Wf w ((w.alloc (.cells (wcV nilS 0 nilS) 46)).alloc (.cells (wcV nilS 0 nilS) 46)) [] 0 nilS nilS []) := ⟨s1, s2, World.ownsRow_nil _ _ _ _, World.ownsRow_nil _ _ _ _, s3⟩
  clear hc hT s1 s2 s3
  go_enter Tryd.func18, Tryd.ntmps18
  go_upto_region 2 with fail
  generalize (w.alloc (.cells (wcV nilS 0 nilS) 46)).alloc (.cells (wcV nilS 0 nilS) 46) = W0 at *
  go_wp2_with fail
  go_loopw [9] (fun iv wx => ∃ (k : Nat) (vs : Value), k ≤ Q.length ∧ iv = .int .i64 (k : Int) ∧ Wf w wx (stW (Q.take k)) (lpN (Q.take k)) vs nilS []) (fun iv _ => Q.length - (intOf iv).toNat)
  case atStart => exact ⟨0, nilS, by omega, rfl, HW0.out⟩
  case round =>
    clear HW0
    obtain ⟨k, vs, hk, rfl, hW⟩ := hrel
    have hTl : (stW (Q.take k)).length ≤ 30 := Nat.le_trans (stW_len _) (by rw [List.length_take]; omega)
    have hLl := lpN_lt hTl
    obtain ⟨ads, cs, rfl⟩ := own_slk hW.s
    have HW := hidd hW
    have a0 := blkc hW.wb 0
    have a1 := blkc hW.wb 1
    have f0 := fun i => frozen_of_row _ _ i _ _ hW.wb
    clear hW
    by_cases hlt : k < Q.length
    · have hkz : (k : Int) < (Q.length : Int) := by omega
      obtain ⟨g, off, rfl, hg, hcells⟩ := HC.out.resolve_left (fun e => by rw [e] at hlt; simp at hlt)
      have c1 := (HW.out.bel.cell (p := ⟨g, off + k, none⟩) hg).trans (hcells k hlt)
      have hx : Q.take (k + 1) = Q.take k ++ [Q.getD k 0] := by
        rw [List.take_succ_eq_append_getElem hlt, List.getD_eq_getElem?_getD, List.getElem?_eq_getElem hlt]
        rfl
      have HX := hidd hx
      clear hcells hx
      obtain ⟨x, hxx⟩ : ∃ x, Q.getD k 0 = x := ⟨_, rfl⟩
      rw [hxx] at c1 HX
      clear hxx
      by_cases hz : x = -3
      · have hzb : (x == -3) = true := by simp [hz]
        have HE : Hid (stW (Q.take (k + 1)) = stW (Q.take k) ∧ lpN (Q.take (k + 1)) = lpN (Q.take k) ||| 2 ^ (stW (Q.take k)).length) := by
          rw [HX.out, hz]
          exact ⟨by rw [stW_snoc, if_pos rfl], lpN_star _⟩
        clear hz HX
        generalize stW (Q.take k) = T at *
        generalize lpN (Q.take k) = L at *
        have hP := pow31 (show T.length ≤ T.length by omega) (by omega)
        have hPz : ((2 ^ T.length : Nat) : Int) = (2 : Int) ^ T.length := by norm_cast
        obtain ⟨P, hP'⟩ : ∃ P : Nat, 2 ^ T.length = P := ⟨_, rfl⟩
        rw [hP'] at HE hP hPz
        have hPz' := hPz.symm
        have hor := u64_or_nat L P (by omega) (by omega)
        clear hP' hPz
        go_wp2_with fail
        go_region
        have HN := hidd ((HW.out.setL (L ||| P)).below (Below.refl _ _).drew)
        go_wp2_with fail
        go_roundw
        case rel => exact ⟨k + 1, _, by omega, by go_num, by rw [HE.out.1, HE.out.2]; exact HN.out⟩
        case measure => simp [intOf]; omega
      · have hzb : (x == -3) = false := by simp [hz]
        have HE : Hid (stW (Q.take (k + 1)) = stW (Q.take k) ++ [x] ∧ lpN (Q.take (k + 1)) = lpN (Q.take k)) := by
          rw [HX.out]
          exact ⟨by rw [stW_snoc, if_neg hz], lpN_one _ hz⟩
        clear hz HX
        generalize stW (Q.take k) = T at *
        generalize lpN (Q.take k) = L at *
        have HO := hidd HW.out.s
        have hsz := HW.out.bel.size
        go_wp2_with (at_builtin; refine wp_push rfl _ _ 30 3 rfl i0 (.int .i64 0) 8 Tryd.underlying30 hi hz0 hz1 hz2 rfl w.heap.size _ _ _ rfl HO.out _ rfl rfl (by omega) (by decide) hsz ?_)
        intro v8 w8 ho8 hbt8 hat8 hnn8
        obtain ⟨g8, c8, rfl⟩ := own_posk ho8 (by omega)
        have hPS := HW.out.pushS hbt8 ho8
        have HN := hidd hPS.1
        have t0 := blkc hPS.2 0
        have fz8 := frozen_of_row _ _ 0 _ _ hPS.2
        clear ho8 hbt8 hat8 hnn8 hPS HO HW a0 a1 f0 c1
        go_wp2_with fail
        go_roundw
        case rel => exact ⟨k + 1, _, by omega, by go_num, by rw [HE.out.1, HE.out.2]; exact HN.out⟩
        case measure => simp [intOf]; omega
    · have hkz : ¬ (k : Int) < (Q.length : Int) := by omega
      obtain rfl : k = Q.length := by omega
      rw [List.take_length] at *
      clear HC
      generalize hTT : stW Q = T at *
      generalize hLL : lpN Q = L at *
      have HLl : Hid (∀ l, L.testBit l = true → l ≤ T.length) := fun l hl => by rw [← hTT]; exact lpN_le (by rw [hLL]; exact hl)
      have HPo : Hid (∀ e w', (∃ vs vc Cl, e = .returned (.agg (wcV vs L vc)) ∧ w'.ownsRow w.heap.size 3 1 vs T.length (zI T) ∧ w'.ownsRow w.heap.size 43 1 vc Cl.length (zU Cl) ∧ Cl.length = T.length ∧ CvOK T L Cl ∧ Below w.heap.size w w') → WfPost Q w e w') := fun e w' hh => by unfold WfPost; rw [hTT, hLL]; exact hh
      clear hTT hLL
      have HS0 : Hid (∃ (vc : Value) (Cl : List Nat), Wf w wr T L (.slice ads T.length cs) vc Cl ∧ Cl.length = 0 ∧ CvOK T L Cl) := ⟨nilS, [], HW.out, rfl, fun j hj => absurd hj (by simp)⟩
      clear HW
      go_wp2_with fail
      clear a0 a1 f0
      go_loopw [33] (fun iv wx => ∃ (k : Nat) (vc : Value) (Cl : List Nat), k ≤ T.length ∧ iv = .int .i64 (k : Int) ∧ Wf w wx T L (.slice ads T.length cs) vc Cl ∧ Cl.length = k ∧ CvOK T L Cl) (fun iv _ => T.length - (intOf iv).toNat)
      case atStart =>
        obtain ⟨vc, Cl, h1, h2, h3⟩ := HS0.out
        exact ⟨0, vc, Cl, by omega, rfl, h1, h2, h3⟩
      case round =>
        clear HS0
        obtain ⟨k, vc, Cl, hk, rfl, hW, hCl, hOK⟩ := hrel
        obtain ⟨adc, cc, hvc⟩ := own_slk hW.c
        rw [hCl] at hvc
        subst hvc
        have HW := hidd hW
        have HOK := hidd hOK
        have HCl := hidd hCl
        have a0 := blkc hW.wb 0
        have a1 := blkc hW.wb 1
        have a2 := blkc hW.wb 2
        clear hOK hCl
        by_cases hlt : k < T.length
        · have hkz : (k : Int) < (T.length : Int) := by omega
          obtain ⟨g, cs', hgg⟩ := own_posk hW.s (by omega)
          simp only [Value.slice.injEq, true_and] at hgg
          obtain ⟨rfl, rfl⟩ := hgg
          have hcap : T.length ≤ cs := by
            rcases hW.s.2 with ⟨h', _⟩ | ⟨g', c', cur, h1, _, _, h4, _⟩
            · simp at h'
            · simp only [Value.slice.injEq, true_and] at h1; omega
          have HCv : Hid (∀ W, Wf w W T L (.slice (some ⟨g, 0, none⟩) T.length cs) (.slice adc k cc) Cl → Calls Tryd.prog 32 #[.agg (wcV (.slice (some ⟨g, 0, none⟩) T.length cs) L (.slice adc k cc)), .int .i64 (k : Int)] W (CvPost T L k W)) := fun W hWW => by
            refine covers_any g cs L k _ T W hTl hcap HLl.out hLl hlt ?_ (fun t ht => ?_) ⟨_, _, _, rfl⟩ (tab_below HTb.out hWW.bel)
            · rcases hWW.s.2 with ⟨h', _⟩ | ⟨g', c', cur, h1, _, h3, _⟩
              · simp at h'
              · simp only [Value.slice.injEq, Option.some.injEq, Addr.mk.injEq, true_and, and_true] at h1
                rw [h1.1]
                exact (Array.getElem?_eq_some_iff.1 h3).1
            · refine own_cellk hWW.s ?_
              unfold zI
              rw [List.getElem?_map, List.getD_eq_getElem?_getD, List.getElem?_eq_getElem ht]
              rfl
          have HCo : Hid (∀ W : World, W.ownsRow w.heap.size 43 1 (.slice adc k cc) Cl.length (zU Cl) → W.ownsRow w.heap.size 43 1 (.slice adc k cc) k (zU Cl)) := fun W hh => by rw [HCl.out] at hh; exact hh
          clear hW
          go_upto_region 12 with fail
          refine wp_region_held (S := fun _ => True) (by kernel_rfl) ?_
          have hbd : Below wr.heap.size wr ({ heap := wr.heap, tape := wr.tape, drawn := wr.drawn + 1, os := wr.os, output := wr.output } : World) := (Below.refl _ _).drew
          generalize ({ heap := wr.heap, tape := wr.tape, drawn := wr.drawn + 1, os := wr.os, output := wr.output } : World) = Wd at *
          have hWd := HW.out.below hbd
          try simp only [Act.put, List.getElem_toArray, List.getElem_cons_succ, List.getElem_cons_zero, List.setIfInBounds_toArray, List.set_cons_zero, List.set_cons_succ]
          refine tkX 0 (hS := trivial) (h := ?_)
          try simp only [Act.put, List.getElem_toArray, List.getElem_cons_succ, List.getElem_cons_zero, List.setIfInBounds_toArray, List.set_cons_zero, List.set_cons_succ]
          refine tkX 3 (hS := trivial) (h := ?_)
          try simp only [Act.put, List.getElem_toArray, List.getElem_cons_succ, List.getElem_cons_zero, List.setIfInBounds_toArray, List.set_cons_zero, List.set_cons_succ]
          refine wpAnyH_two 1 2 (by kernel_rfl) ?ga ?gb
          case' ga =>
            refine wpOp_val _ _ rfl (by kernel_rfl) (exec_loadUs _ _ _ _ rfl (w.heap.size + 1) 2 (.slice adc k cc) (by kernel_rfl) (blkc (hWd).wb 2)) ?_
            refine ⟨trivial, ?_⟩
            try simp only [Act.put, List.getElem_toArray, List.getElem_cons_succ, List.getElem_cons_zero, List.setIfInBounds_toArray, List.set_cons_zero, List.set_cons_succ]
            refine wpAnyH_one 2 (by kernel_rfl) ?_
            refine wpOp_val _ _ rfl (by kernel_rfl) (exec_loadW _ _ _ _ rfl (w.heap.size + 1) (some ⟨g, 0, none⟩) adc T.length cs k cc (L : Int) (by kernel_rfl) (blkc (hWd).wb 0) (blkc (hWd).wb 1) (blkc (hWd).wb 2)) ?_
            refine ⟨trivial, ?_⟩
            try simp only [Act.put, List.getElem_toArray, List.getElem_cons_succ, List.getElem_cons_zero, List.setIfInBounds_toArray, List.set_cons_zero, List.set_cons_succ]
            refine wpAnyH_one 4 (by kernel_rfl) ?_
            refine wpOp_call 32 #[.agg (wcV (.slice (some ⟨g, 0, none⟩) T.length cs) L (.slice adc k cc)), .int .i64 (k : Int)] rfl (by kernel_rfl) (rbx_call2 _ _ _ _ _ _ _ _ rfl _ _ (by kernel_rfl) (by kernel_rfl) (Tryd.call32 _ _)) ?_
            refine (HCv.out Wd hWd).mono ?_
            rintro e' we ⟨c, rfl, hc31, hcb, hbe⟩
            have hWe := hWd.below hbe
            refine ⟨trivial, ?_⟩
            try simp only [Act.put, List.getElem_toArray, List.getElem_cons_succ, List.getElem_cons_zero, List.setIfInBounds_toArray, List.set_cons_zero, List.set_cons_succ]
            refine wpAnyH_one 5 (by kernel_rfl) ?_
            refine wpOp_val _ _ rfl (by kernel_rfl) (exec_buildU _ _ _ _ rfl (c : Int) (by kernel_rfl)) ?_
            refine ⟨trivial, ?_⟩
            try simp only [Act.put, List.getElem_toArray, List.getElem_cons_succ, List.getElem_cons_zero, List.setIfInBounds_toArray, List.set_cons_zero, List.set_cons_succ]
          case' gb =>
            refine wpOp_val _ _ rfl (by kernel_rfl) (exec_loadW _ _ _ _ rfl (w.heap.size + 1) (some ⟨g, 0, none⟩) adc T.length cs k cc (L : Int) (by kernel_rfl) (blkc (hWd).wb 0) (blkc (hWd).wb 1) (blkc (hWd).wb 2)) ?_
            refine ⟨trivial, ?_⟩
            try simp only [Act.put, List.getElem_toArray, List.getElem_cons_succ, List.getElem_cons_zero, List.setIfInBounds_toArray, List.set_cons_zero, List.set_cons_succ]
            refine wpAnyH_two 1 4 (by kernel_rfl) ?gc ?gd
          case' gc =>
            refine wpOp_val _ _ rfl (by kernel_rfl) (exec_loadUs _ _ _ _ rfl (w.heap.size + 1) 2 (.slice adc k cc) (by kernel_rfl) (blkc (hWd).wb 2)) ?_
            refine ⟨trivial, ?_⟩
            try simp only [Act.put, List.getElem_toArray, List.getElem_cons_succ, List.getElem_cons_zero, List.setIfInBounds_toArray, List.set_cons_zero, List.set_cons_succ]
            refine wpAnyH_one 4 (by kernel_rfl) ?_
            refine wpOp_call 32 #[.agg (wcV (.slice (some ⟨g, 0, none⟩) T.length cs) L (.slice adc k cc)), .int .i64 (k : Int)] rfl (by kernel_rfl) (rbx_call2 _ _ _ _ _ _ _ _ rfl _ _ (by kernel_rfl) (by kernel_rfl) (Tryd.call32 _ _)) ?_
            refine (HCv.out Wd hWd).mono ?_
            rintro e' we ⟨c, rfl, hc31, hcb, hbe⟩
            have hWe := hWd.below hbe
            refine ⟨trivial, ?_⟩
            try simp only [Act.put, List.getElem_toArray, List.getElem_cons_succ, List.getElem_cons_zero, List.setIfInBounds_toArray, List.set_cons_zero, List.set_cons_succ]
            refine wpAnyH_one 5 (by kernel_rfl) ?_
            refine wpOp_val _ _ rfl (by kernel_rfl) (exec_buildU _ _ _ _ rfl (c : Int) (by kernel_rfl)) ?_
            refine ⟨trivial, ?_⟩
            try simp only [Act.put, List.getElem_toArray, List.getElem_cons_succ, List.getElem_cons_zero, List.setIfInBounds_toArray, List.set_cons_zero, List.set_cons_succ]
          case' gd =>
            refine wpOp_call 32 #[.agg (wcV (.slice (some ⟨g, 0, none⟩) T.length cs) L (.slice adc k cc)), .int .i64 (k : Int)] rfl (by kernel_rfl) (rbx_call2 _ _ _ _ _ _ _ _ rfl _ _ (by kernel_rfl) (by kernel_rfl) (Tryd.call32 _ _)) ?_
            refine (HCv.out Wd hWd).mono ?_
            rintro e' we ⟨c, rfl, hc31, hcb, hbe⟩
            have hWe := hWd.below hbe
            refine ⟨trivial, ?_⟩
            try simp only [Act.put, List.getElem_toArray, List.getElem_cons_succ, List.getElem_cons_zero, List.setIfInBounds_toArray, List.set_cons_zero, List.set_cons_succ]
            refine wpAnyH_two 1 5 (by kernel_rfl) ?ge ?gf
          case' ge =>
            refine wpOp_val _ _ rfl (by kernel_rfl) (exec_loadUs _ _ _ _ rfl (w.heap.size + 1) 2 (.slice adc k cc) (by kernel_rfl) (blkc (hWe).wb 2)) ?_
            refine ⟨trivial, ?_⟩
            try simp only [Act.put, List.getElem_toArray, List.getElem_cons_succ, List.getElem_cons_zero, List.setIfInBounds_toArray, List.set_cons_zero, List.set_cons_succ]
            refine wpAnyH_one 5 (by kernel_rfl) ?_
            refine wpOp_val _ _ rfl (by kernel_rfl) (exec_buildU _ _ _ _ rfl (c : Int) (by kernel_rfl)) ?_
            refine ⟨trivial, ?_⟩
            try simp only [Act.put, List.getElem_toArray, List.getElem_cons_succ, List.getElem_cons_zero, List.setIfInBounds_toArray, List.set_cons_zero, List.set_cons_succ]
          case' gf =>
            have hWA := hWe.below ((Below.refl we.heap.size we).alloc (Nat.le_refl _) (.cells #[.int .u64 (c : Int)] 43))
            refine wpOp_val _ _ rfl (by kernel_rfl) (exec_buildU _ _ _ _ rfl (c : Int) (by kernel_rfl)) ?_
            refine ⟨trivial, ?_⟩
            try simp only [Act.put, List.getElem_toArray, List.getElem_cons_succ, List.getElem_cons_zero, List.setIfInBounds_toArray, List.set_cons_zero, List.set_cons_succ]
            refine wpAnyH_one 1 (by kernel_rfl) ?_
            refine wpOp_val _ _ rfl (by kernel_rfl) (exec_loadUs _ _ _ _ rfl (w.heap.size + 1) 2 (.slice adc k cc) (by kernel_rfl) (blkc (hWA).wb 2)) ?_
            refine ⟨trivial, ?_⟩
            try simp only [Act.put, List.getElem_toArray, List.getElem_cons_succ, List.getElem_cons_zero, List.setIfInBounds_toArray, List.set_cons_zero, List.set_cons_succ]
          all_goals
            refine wpAnyH_one 6 (by kernel_rfl) ?_
            refine wpOp_pushU rfl (by kernel_rfl) rfl _ _ rfl iu hiu hu0 hu1 hu2 w.heap.size _ k (zU Cl) (by kernel_rfl) (HCo.out _ hWe.c) (c : Int) we.heap.size rfl (by kernel_rfl) (by omega) hWe.bel.size ?_
            intro g9 c9 W9 ho9 hbt9 hat9
            have hPC := hWe.pushC hbt9 (by rw [HCl.out]; exact ho9)
            refine ⟨trivial, ?_⟩
            try simp only [Act.put, List.getElem_toArray, List.getElem_cons_succ, List.getElem_cons_zero, List.setIfInBounds_toArray, List.set_cons_zero, List.set_cons_succ]
            refine tkX 7 (hS := trivial) (h := ?_)
            try simp only [Act.put, List.getElem_toArray, List.getElem_cons_succ, List.getElem_cons_zero, List.setIfInBounds_toArray, List.set_cons_zero, List.set_cons_succ]
            refine wpAnyH_one 8 (by kernel_rfl) ?_
            refine wpOp_skip _ rfl (by kernel_rfl) (exec_storeUs _ _ _ _ _ rfl (w.heap.size + 1) 2 g9 (k + 1) c9 _ (by kernel_rfl) (by kernel_rfl) (blkc hPC.2 2) (frozen_of_row _ _ 2 _ _ hPC.2)) ?_
            refine ⟨trivial, ?_⟩
            try simp only [Act.put, List.getElem_toArray, List.getElem_cons_succ, List.getElem_cons_zero, List.setIfInBounds_toArray, List.set_cons_zero, List.set_cons_succ]
            refine wpAnyH_done (by kernel_rfl) ?_ _
            have HWn := hidd hPC.1
            have HOn : Hid (CvOK T L (Cl ++ [c])) := HOK.out.push hc31 (by rw [HCl.out]; exact hcb)
            have HLn : Hid ((Cl ++ [c]).length = k + 1) := by show _ = _; rw [List.length_append, List.length_singleton, HCl.out]
            clear ho9 hbt9 hat9 hPC hWe hbe hWd hbd HW a0 a1 a2
            go_wp2_with fail
            go_roundw
            case rel => exact ⟨k + 1, _, _, by omega, by go_num, HWn.out, HLn.out, HOn.out⟩
            case measure => simp [intOf]; omega
        · have hkz : ¬ (k : Int) < (T.length : Int) := by omega
          obtain rfl : k = T.length := by omega
          have r0 := blkc hW.rb 0
          have r1 := blkc hW.rb 1
          have r2 := blkc hW.rb 2
          have fzr := fun j => frozen_of_row _ _ j _ _ hW.rb
          have hs3 := blk_setk (blk_setk (blk_setk hW.rb 0 (.slice ads T.length cs)) 1 (.int .u64 (L : Int))) 2 (.slice adc T.length cc)
          have Hs3 := hidd hs3
          have HFin : Hid (WfPost Q w (.returned (.agg (wcV (.slice ads T.length cs) L (.slice adc T.length cc)))) (((wr.setCell ⟨w.heap.size, 0, none⟩ (.slice ads T.length cs)).setCell ⟨w.heap.size, 1, none⟩ (.int .u64 (L : Int))).setCell ⟨w.heap.size, 2, none⟩ (.slice adc T.length cc))) := by
            have hoth : ∀ b, b ≠ w.heap.size → (((wr.setCell ⟨w.heap.size, 0, none⟩ (.slice ads T.length cs)).setCell ⟨w.heap.size, 1, none⟩ (.int .u64 (L : Int))).setCell ⟨w.heap.size, 2, none⟩ (.slice adc T.length cc)).heap[b]? = wr.heap[b]? := fun b hb' => by
              rw [heap_set_other _ _ _ _ _ hb', heap_set_other _ _ _ _ _ hb', heap_set_other _ _ _ _ _ hb']
            refine HPo.out _ _ ⟨_, _, Cl, rfl, own_congr hW.s (fun b hk => hoth b ?_), own_congr hW.c (fun b hk => hoth b ?_), HCl.out, HOK.out, ?_⟩
            · obtain ⟨_, cur, h2⟩ := own_blk hW.s hk
              exact blk_ne h2 hW.rb (by decide)
            · obtain ⟨_, cur, h2⟩ := own_blk hW.c hk
              exact blk_ne h2 hW.rb (by decide)
            · exact ((hW.bel.setCell (Nat.le_refl _) _).setCell (Nat.le_refl _) _).setCell (Nat.le_refl _) _
          clear hs3 hW HW HPo HOK
          go_wp2_with fail
          have q0 := blkc Hs3.out 0
          have q1 := blkc Hs3.out 1
          have q2 := blkc Hs3.out 2
          clear Hs3 fzr r0 r1 r2 a0 a1 a2
          generalize ((wr.setCell ⟨w.heap.size, 0, none⟩ (.slice ads T.length cs)).setCell ⟨w.heap.size, 1, none⟩ (.int .u64 (L : Int))).setCell ⟨w.heap.size, 2, none⟩ (.slice adc T.length cc) = WF at *
          refine bodyPost_ret (v := .agg (wcV (.slice ads T.length cs) L (.slice adc T.length cc))) (by simp [results, Tryd.results18, go_sem, q0, q1, q2]) rfl ?_
          exact HFin.out
end Go.Proofs.YtmnfioghhdgciaaDoor
