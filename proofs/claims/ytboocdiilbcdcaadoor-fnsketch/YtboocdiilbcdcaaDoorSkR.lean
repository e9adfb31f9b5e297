import Derived.Test.YtboocdiilbcdcaaDoorSkN
import Derived.Test.YtboocdiilbcdcaaDoorSkS
import Derived.Laws.CopyOwn
import Derived.Laws.CopyRow
import Derived.Deep.CutBlock
namespace Go.Proofs.YtboocdiilbcdcaaDoor
open Go Go.RowKit
set_option linter.unusedVariables false
set_option linter.unusedSimpArgs false
set_option maxRecDepth 100000

/-! (impl.Sketch).ranks. -/
def clampZ (x : Int) : Int := min (max x 0) 25
def clZ (zs : List Int) : List Int := zs.map clampZ
theorem clZ_len (zs : List Int) : (clZ zs).length = zs.length := List.length_map _
theorem clZ_get (zs : List Int) (i : Nat) (h : i < zs.length) : (clZ zs).getD i 0 = clampZ (zs.getD i 0) := by simp [clZ, h]
theorem clampZ_in (x : Int) : 0 ≤ clampZ x ∧ clampZ x ≤ 25 := by unfold clampZ; omega
theorem clZ_same {zs : List Int} (h : SkOK zs) : clZ zs = zs := by
  apply List.ext_getElem (clZ_len zs)
  intro i h1 h2
  have hr := h.2 i (by rw [← h.1]; exact h2)
  have e : zs.getD i 0 = zs[i] := by simp [List.getD_eq_getElem?_getD, h2]
  rw [e] at hr
  simp only [clZ, List.getElem_map]
  unfold clampZ
  have := hr.1
  have := hr.2
  omega
theorem clZ_ok {zs : List Int} (hl : zs.length = 256) : decide (clZ zs = zs) = bOf (SkOK zs) := by
  by_cases h : clZ zs = zs
  · rw [decide_eq_true h]
    refine (bOf_t ⟨hl, fun i hi => ?_⟩).symm
    have := clampZ_in (zs.getD i 0)
    rw [← clZ_get zs i (by omega), h] at this
    exact this
  · rw [decide_eq_false h]
    exact (bOf_f (fun hs => h (clZ_same hs))).symm
theorem rblk_load {W : World} {base g : Nat} {vs : List Int} (h : rBlk W base g vs) : (loadVar 50 ⟨g, 0, none⟩).run Tryd.prog W = .ok (.agg (ruArr vs)) W :=
  run_loadVar_row (P := Tryd.prog) W g 50 50 (ruArr vs) (0, 0) _ h.heap Tryd.underlying50 rfl (by rw [ruArr_size, h.len]; exact rblockSize)
theorem exec_sliceQ (W : World) (ρ : Operand → Value) (o : Oper) (x : Operand) (ho : o.op = .slice 68 x none none none) (g : Nat) (hx : ρ x = .pointer (some ⟨g, 0, none⟩)) :
    (execOp ρ o).run Tryd.prog W = .ok (.value (.slice (some ⟨g, 0, none⟩) 256 256)) W := by
  unfold execOp
  simp only [ho, hx, Sem.run_bind, Sem.run_pure, Result.andThen_ok, Option.map_none]
  go_simp
theorem exec_loadK (W : World) (ρ : Operand → Value) (o : Oper) (x : Operand) (ho : o.op = .load 25 x) (b : Nat) (ad : Option Addr) (n c : Nat) (hx : ρ x = .pointer (some ⟨b, 0, none⟩)) (h : W.heap[b]? = some (.cells #[.slice ad n c] 27)) :
    (execOp ρ o).run Tryd.prog W = .ok (.value (.slice ad n c)) W := by
  have c3' : W.cell? ⟨b, 0, none⟩ = some (.slice ad n c) := blkc h 0
  clear h
  unfold execOp
  simp only [ho, hx, Sem.run_bind, Sem.run_pure, Result.andThen_ok]
  go_simp
theorem exec_copyQ (W : World) (ρ : Operand → Value) (o : Oper) (x y : Operand) (ho : o.op = .call { callee := .builtin .copy, args := #[x, y], argTypes := #[25, 25] }) (g : Nat) (us zs : List Int) (ad : Option Addr) (cap : Nat) (hx : ρ x = .slice (some ⟨g, 0, none⟩) 256 256) (hy : ρ y = .slice ad 256 cap) (hn : zs.length = 256) (hB : qBlk W 0 g us)
    (hz : ∃ gz off, ad = some ⟨gz, off, none⟩ ∧ ∀ t, t < zs.length → W.cell? ⟨gz, off + t, none⟩ = some (.int .i64 (zs.getD t 0))) :
    (execOp ρ o).run Tryd.prog W = .ok (.value (.int .i64 256)) (W.setRow g (quArr zs)) := by
  obtain ⟨gz, off, rfl, hc⟩ := hz
  have hr := run_copy_row (P := Tryd.prog) W 25 25 o.type 3 g 0 256 256 ⟨gz, off, none⟩ 256 cap (quArr us) 68 (quCells zs) Tryd.underlying25 (by kernel_rfl) hB.heap (by rw [quCells_length, hn]; rfl) (fun j v hj => by
    have hjl : j < zs.length := by have := (List.getElem?_eq_some_iff.1 hj).1; rwa [quCells_length] at this
    rw [show (⟨gz, off, none⟩ : Addr).add j = ⟨gz, off + j, none⟩ from by simp only [Addr.add]; split <;> simp_all]
    rw [hc j hjl, ← hj, quCells_get zs j hjl]) (by rw [quCells_length, quArr_size, hn, hB.len]; omega) (fun v hv => by
      simp only [quCells, List.mem_map] at hv
      obtain ⟨z, _, rfl⟩ := hv
      rfl)
  have e : ((quArr us).toList.take 0 ++ quCells zs ++ (quArr us).toList.drop (0 + (quCells zs).length)).toArray = quArr zs := by
    rw [List.take_zero, List.nil_append, quArr_toList, List.drop_of_length_le (by rw [quCells_length, quCells_length, hn, hB.len]; omega), List.append_nil]
    rfl
  rw [e] at hr
  have hl : (quCells zs).length = 256 := by rw [quCells_length, hn]
  rw [hl] at hr
  unfold execOp
  simp only [ho, resolve, invoke, builtin, Sem.run_bind, Sem.run_pure, Result.andThen_ok, List.map_toArray, List.map_cons, List.map_nil, hx, hy, hr]
  rfl
theorem op_storeR {K : Act → World → Prop} {Q : Exit → Act → World → Prop} {o : Oper} {a : Act} {w : World} (x y : Operand) (ho : o.op = .store 50 x y) (g : Nat) (vs us : List Int) (hx : a.eval x = .pointer (some ⟨g, 0, none⟩)) (hy : a.eval y = .agg (ruArr us)) (hl : us.length = 256) (hB : rBlk w 0 g vs)
    (h : ∀ w', rBlk w' 0 g us → w.grownBy w' (some g) → K (a.put o.dst undef) w') : o.wp Tryd.prog a w K Q := by
  have hv := hB.len
  have hr := run_storeVar_row (P := Tryd.prog) w g 50 50 (ruArr vs) (ruArr us) hB.heap (by rw [ruArr_size, hl]; exact rblockSize) (by rw [ruArr_size, ruArr_size]; omega) (ruArr_one us)
  have h1 : rBlk (w.setRow g (ruArr us)) 0 g us := rBlk.of hB.lt.1 hl (setRow_heap w g _ _ _ _ hB.heap)
  have h2 : w.grownBy (w.setRow g (ruArr us)) (some g) := ⟨rfl, rfl, rfl, by simp [World.setRow], fun i hi hne => by simp only [World.setRow]; rw [Array.getElem?_modify]; have : ¬ g = i := fun e => hne (by rw [e]); simp [this]⟩
  unfold Oper.wp execOp
  simp only [ho, Instr.storeAt, Instr.sureAddr, hx, hy, Sem.run_bind, Sem.run_pure, Result.andThen_ok, hr]
  exact h _ h1 h2
theorem grown_b1 {w0 W w' : World} {B g : Nat} (hb : Below B w0 W) (hB : B ≤ W.heap.size) (hg : W.grownBy w' (some g)) (hBg : B ≤ g) : Below B w0 w' := hb.grown hg hB (fun k hk => by cases hk; exact hBg)
theorem wpV {ops : Array Oper} {rest : List Oper} {o : Oper} {a : Act} {w : World} {Q : Exit → Act → World → Prop} (hgd : o.guard = none) (v : Value) (hx : (execOp a.eval o).run Tryd.prog w = .ok (.value v) w) (h : wpList Tryd.prog ops Q rest (a.put o.dst v) w) : wpList Tryd.prog ops Q (o :: rest) a w := by
  refine wpList_plain hgd fun K hK => ?_
  unfold Oper.wp
  simp only [hx, Oper.upon]
  exact hK _ _ h
theorem exec_max2 (W : World) (ρ : Operand → Value) (o : Oper) (x y : Operand) (k : IntKind) (t : TypeId) (ho : o.op = .call { callee := .builtin .max, args := #[x, y], argTypes := #[t, t] }) (X Y M : Int) (hx : ρ x = .int k X) (hy : ρ y = .int k Y) (h : max X Y = M) :
    (execOp ρ o).run Tryd.prog W = .ok (.value (.int k M)) W := by
  have h' : (if Y > X then Y else X) = M := by rw [← h]; split <;> omega
  subst h'
  unfold execOp
  simp only [ho, hx, hy, Sem.run_bind, Sem.run_pure, Result.andThen_ok]
  go_simp
theorem exec_min2 (W : World) (ρ : Operand → Value) (o : Oper) (x y : Operand) (k : IntKind) (t : TypeId) (ho : o.op = .call { callee := .builtin .min, args := #[x, y], argTypes := #[t, t] }) (X Y M : Int) (hx : ρ x = .int k X) (hy : ρ y = .int k Y) (h : min X Y = M) :
    (execOp ρ o).run Tryd.prog W = .ok (.value (.int k M)) W := by
  have h' : (if Y < X then Y else X) = M := by rw [← h]; split <;> omega
  subst h'
  unfold execOp
  simp only [ho, hx, hy, Sem.run_bind, Sem.run_pure, Result.andThen_ok]
  go_simp
/-- What ranks tells. -/
def RkPost (w : World) (zs : List Int) (e : Ending) (w' : World) : Prop := ∃ rs, e = .returned (.tuple #[.agg (ruArr rs), .bool (bOf (SkOK zs))]) ∧ rs.length = 256 ∧ (SkOK zs → rs = zs) ∧ Below w.heap.size w w'
set_option maxHeartbeats 8000000 in
theorem ranks_any (v : Value) (zs : List Int) (w : World) (hl : zs.length ≤ 1048576) (hv : HoldI w v zs) :
    Calls Tryd.prog 28 #[.agg #[v]] w (RkPost w zs) := by
  obtain ⟨ad, cap, rfl, hz⟩ := hv
  have HZ := hidd hz
  clear hz
  obtain ⟨n, hn⟩ : ∃ n, zs.length = n := ⟨_, rfl⟩
  rw [hn] at hl ⊢
  have HN := hidd hn
  clear hn
  obtain ⟨W, hW⟩ : ∃ W, ((w.alloc (.cells #[.slice ad n cap] 27)).alloc (.cells (ruArr rzeros) 50)).alloc (.cells (ruArr rzeros) 50) = W := ⟨_, rfl⟩
  have HBW : Hid (Below w.heap.size w W) := by show Below _ _ _; rw [← hW]; exact (((Below.refl _ _).alloc (Nat.le_refl _) _).alloc (by simp) _).alloc (by simp; omega) _
  have hk := box_two w (.cells #[.slice ad n cap] 27) (.cells (ruArr rzeros) 50)
  have HK0 : Hid (W.heap[w.heap.size]? = some (.cells #[.slice ad n cap] 27)) := by show _ = _; rw [← hW, Below.heap_alloc _ _ _ (by simp; omega)]; exact hk.1
  have HK1 : Hid (W.heap[w.heap.size + 1]? = some (.cells (ruArr rzeros) 50)) := by show _ = _; rw [← hW, Below.heap_alloc _ _ _ (by simp)]; exact hk.2
  have HK2 : Hid (W.heap[w.heap.size + 1 + 1]? = some (.cells (ruArr rzeros) 50)) := by show _ = _; rw [← hW]; have := heap_alloc_new ((w.alloc (.cells #[.slice ad n cap] 27)).alloc (.cells (ruArr rzeros) 50)) (.cells (ruArr rzeros) 50); simpa using this
  have HWz : Hid (W.heap.size = w.heap.size + 1 + 1 + 1) := by show _ = _; rw [← hW]; simp
  clear hk
  have x0 : W.cell? ⟨w.heap.size, 0, none⟩ = some (.slice ad n cap) := blkc HK0.out 0
  go_enter Tryd.func28, Tryd.ntmps28
  go_upto_region 2 with (refine rwpB_alloc rfl rfl ?_)
  try rw [hW]
  clear hW
  by_cases h256 : n = 256
  · subst h256
    have hne : ((256 : Int) != 256) = false := by simp
    have hlt0 : 0 < zs.length := by rw [HN.out]; omega
    obtain ⟨gz, off, rfl, hgz, hcz⟩ := HZ.out.resolve_left (fun h => by rw [h] at hlt0; simp at hlt0)
    have HCz := hidd hcz
    have HCl : Hid ((clZ zs).length = 256) := (clZ_len zs).trans HN.out
    clear hcz HZ hlt0 hl
    go_wp2_with fail
    go_loopw [5, 6, 16] (fun _ _ i wr => ∃ k : Nat, k ≤ 256 ∧ i = .int .i64 (k : Int) ∧ rBlk wr 0 (w.heap.size + 1 + 1) (padZ ((clZ zs).take k)) ∧ Below (w.heap.size + 1 + 1) W wr ∧ wr.heap.size = w.heap.size + 1 + 1 + 1) (fun _ _ i _ => 256 - (intOf i).toNat)
    case atStart =>
      refine ⟨0, by omega, rfl, ?_, Below.refl _ _, HWz.out⟩
      rw [List.take_zero, padZ_nil]
      exact rBlk.of (Nat.zero_le _) (by rw [List.length_replicate]) HK2.out
    case round =>
      obtain ⟨k, hk, rfl, hB, hbel, hzr⟩ := hrel
      have HB := hidd hB
      have Hbel := hidd hbel
      have HZr := hidd hzr
      clear hB hbel hzr
      by_cases hlt : k < 256
      · have hklt : (k : Int) < 256 := by omega
        have hkz : k < zs.length := by rw [HN.out]; exact hlt
        have z0 := (HBW.out.cell (p := ⟨gz, off + k, none⟩) hgz).trans (HCz.out k hkz)
        have z1 : wr.cell? ⟨gz, off + k, none⟩ = some (.int .i64 (zs.getD k 0)) := (Hbel.out.cell (p := ⟨gz, off + k, none⟩) (by show gz < _; omega)).trans z0
        obtain ⟨x, hx⟩ : ∃ x, zs.getD k 0 = x := ⟨_, rfl⟩
        rw [hx] at z1
        obtain ⟨mx, hmx⟩ : ∃ m, max x 0 = m := ⟨_, rfl⟩
        obtain ⟨cl, hcl⟩ : ∃ m, min mx 25 = m := ⟨_, rfl⟩
        have hcb : 0 ≤ cl ∧ cl ≤ 25 := by omega
        have HSt : Hid ((padZ ((clZ zs).take k)).set k cl = padZ ((clZ zs).take (k + 1))) := by
          show _ = _
          have e : (clZ zs).getD k 0 = cl := by rw [clZ_get zs k hkz, hx]; unfold clampZ; rw [hmx, hcl]
          rw [take_snocZ (clZ zs) k (by rw [HCl.out]; exact hlt), e]
          exact padZ_set _ k cl hlt (by rw [List.length_take, HCl.out]; omega)
        have HEC : Hid ((if (25 : Int) < (if x < 0 then (0 : Int) else x) then (25 : Int) else (if x < 0 then (0 : Int) else x)) = cl) := by show _ = _; split <;> split at * <;> omega
        have c1 := HB.out.cell k hlt
        have f1 := HB.out.frozen k
        generalize (padZ ((clZ zs).take k)).getD k 0 = u at *
        have HMx := hidd hmx
        have HCb := hidd hcl
        clear hx z0 hmx hcl
        go_wp2_with fail
        go_roundw
        case rel =>
          have B1 := HB.out.set k cl
          refine ⟨k + 1, by omega, by go_num, ?_, Hbel.out.setCell (p := ⟨w.heap.size + 1 + 1, k, none⟩) (Nat.le_refl _) _, by simp [World.setCell]; exact HZr.out⟩
          rw [← HSt.out, HEC.out]
          exact B1.1
        case measure => simp [intOf]; omega
      · have hklt : ¬ (k : Int) < 256 := by omega
        have HKp : Hid (padZ ((clZ zs).take k) = clZ zs) := by show _ = _; rw [List.take_of_length_le (by rw [HCl.out]; omega)]; exact padZ_full _ HCl.out
        rw [HKp.out] at HB
        have HK0r := hidd ((Hbel.out.block w.heap.size (by omega)).trans HK0.out)
        have HK1r := hidd ((Hbel.out.block (w.heap.size + 1) (by omega)).trans HK1.out)
        have HBwr : Hid (Below w.heap.size w wr) := HBW.out.trans (Hbel.out.mono (by omega))
        have HW4 : Hid (Below w.heap.size w (wr.alloc (.cells (quArr qzeros) 68))) := HBwr.out.alloc HBwr.out.size _
        have HBn : Hid (Below wr.heap.size wr (wr.alloc (.cells (quArr qzeros) 68))) := (Below.refl _ _).alloc (Nat.le_refl _) _
        have HK3 : Hid ((wr.alloc (.cells (quArr qzeros) 68)).heap[w.heap.size + 1 + 1 + 1]? = some (.cells (quArr qzeros) 68)) := by show _ = _; have := heap_alloc_new wr (.cells (quArr qzeros) 68); rw [HZr.out] at this; exact this
        clear HK0 HK1 HK2 HBW x0
        have HK0 := hidd (blko HK0r.out HBn.out)
        have HK1 := hidd (blko HK1r.out HBn.out)
        have HK2 := hidd (blko HB.out.heap HBn.out)
        have hzz := HZr.out
        go_upto_region 10 with (refine qwpB_alloc rfl rfl ?_)
        rw [hzz]
        clear hzz
        obtain ⟨W, hWe⟩ : ∃ W, wr.alloc (.cells (quArr qzeros) 68) = W := ⟨_, rfl⟩
        rw [hWe] at HW4 HBn HK0 HK1 HK2 HK3
        try rw [hWe]
        clear hWe
        have HBW := HW4
        have HZd : Hid (∀ V, Below W.heap.size W V → ∃ gz' off', some (⟨gz, off, none⟩ : Addr) = some ⟨gz', off', none⟩ ∧ ∀ t, t < zs.length → V.cell? ⟨gz', off' + t, none⟩ = some (.int .i64 (zs.getD t 0))) := fun V hV => ⟨gz, off, rfl, fun t ht => by
          have h1 := (HBW.out.cell (p := ⟨gz, off + t, none⟩) hgz).trans (HCz.out t ht)
          exact (hV.cell (cell_lt h1)).trans h1⟩
        clear HW4 HBn HK0r HK1r HBwr HB
        refine wp_region_held (S := fun u => u.heap[w.heap.size]? = some (.cells #[.slice (some ⟨gz, off, none⟩) 256 cap] 27)) (by kernel_rfl) ?_
        have hbd : Below W.heap.size W ({ heap := W.heap, tape := W.tape, drawn := W.drawn + 1, os := W.os, output := W.output } : World) := (Below.refl _ _).drew
        generalize ({ heap := W.heap, tape := W.tape, drawn := W.drawn + 1, os := W.os, output := W.output } : World) = Wd at *
        have hSd : (fun u => u.heap[w.heap.size]? = some (.cells #[.slice (some ⟨gz, off, none⟩) 256 cap] 27)) Wd := blko HK0.out hbd
        try simp only [Act.put, List.getElem_toArray, List.getElem_cons_succ, List.getElem_cons_zero, List.setIfInBounds_toArray, List.set_cons_zero, List.set_cons_succ]
        refine wpAnyH_take (i := 0) (v := .slice (some ⟨w.heap.size + 1 + 1 + 1, 0, none⟩) 256 256) rfl (by kernel_rfl) (by kernel_rfl) (by kernel_rfl) (fun _ _ _ h => h) (Or.inl ⟨by kernel_rfl, fun W hW => exec_sliceQ W _ _ _ rfl _ (by kernel_rfl)⟩) hSd ?_
        try simp only [Act.put, List.getElem_toArray, List.getElem_cons_succ, List.getElem_cons_zero, List.setIfInBounds_toArray, List.set_cons_zero, List.set_cons_succ]
        refine tkX 1 (hS := hSd) (h := ?_)
        try simp only [Act.put, List.getElem_toArray, List.getElem_cons_succ, List.getElem_cons_zero, List.setIfInBounds_toArray, List.set_cons_zero, List.set_cons_succ]
        refine wpAnyH_take (i := 2) (v := .slice (some ⟨gz, off, none⟩) 256 cap) rfl (by kernel_rfl) (by kernel_rfl) (by kernel_rfl) (fun _ _ _ h => h) (Or.inl ⟨by kernel_rfl, fun W hW => exec_loadK W _ _ _ rfl w.heap.size (some ⟨gz, off, none⟩) 256 cap (by kernel_rfl) hW⟩) hSd ?_
        try simp only [Act.put, List.getElem_toArray, List.getElem_cons_succ, List.getElem_cons_zero, List.setIfInBounds_toArray, List.set_cons_zero, List.set_cons_succ]
        refine wpAnyH_one 3 (by kernel_rfl) ?_
        have hzq : qBlk Wd 0 (w.heap.size + 1 + 1 + 1) qzeros := qBlk.of (Nat.zero_le _) qzeros_length (blko HK3.out hbd)
        refine wpOp_val _ _ rfl (by kernel_rfl) (exec_copyQ Wd _ _ _ _ rfl (w.heap.size + 1 + 1 + 1) qzeros zs (some ⟨gz, off, none⟩) cap (by kernel_rfl) (by kernel_rfl) HN.out hzq (HZd.out Wd hbd)) ?_
        have hsr : ∀ b, b ≠ w.heap.size + 1 + 1 + 1 → (Wd.setRow (w.heap.size + 1 + 1 + 1) (quArr zs)).heap[b]? = Wd.heap[b]? := fun b hb => setRow_other Wd _ b _ hb
        refine ⟨(hsr _ (by omega)).trans (blko HK0.out hbd), ?_⟩
        try simp only [Act.put, List.getElem_toArray, List.getElem_cons_succ, List.getElem_cons_zero, List.setIfInBounds_toArray, List.set_cons_zero, List.set_cons_succ]
        refine wpAnyH_done (by kernel_rfl) ?_ _
        have HKn3 := hidd (setRow_heap Wd (w.heap.size + 1 + 1 + 1) _ (quArr zs) _ _ hzq.heap)
        have HKn2 := hidd ((hsr (w.heap.size + 1 + 1) (by omega)).trans (blko HK2.out hbd))
        have HKn1 := hidd ((hsr (w.heap.size + 1) (by omega)).trans (blko HK1.out hbd))
        have HBn : Hid (Below w.heap.size w (Wd.setRow (w.heap.size + 1 + 1 + 1) (quArr zs))) := below_setRow (HBW.out.trans (hbd.mono HBW.out.size)) (by omega) _
        clear hSd hzq hsr hbd HK0 HK1 HK2 HK3 HBW HZd
        generalize Wd.setRow (w.heap.size + 1 + 1 + 1) (quArr zs) = W9 at *
        have HBW := HBn
        have HK1 := HKn1
        have HK2 := HKn2
        have HK3 := HKn3
        obtain ⟨W, hWe⟩ : ∃ W, W9 = W := ⟨_, rfl⟩
        rw [hWe] at HBW HK1 HK2 HK3
        have HNu : Hid (∀ V, Calls Tryd.prog 45 #[.agg (ruArr (clZ zs))] V fun e w' => e = .returned (.agg (quArr (clZ zs))) ∧ Below V.heap.size V w') := fun V => numbers_any (clZ zs) V HCl.out (fun i hi => by
          rw [clZ_get zs i (by rw [HN.out]; exact hi)]
          have := clampZ_in (zs.getD i 0)
          omega)
        clear HBn HKn1 HKn2 HKn3
        go_upto_region 11 with fail
        rw [hWe]
        clear hWe
        refine wp_region_held (S := fun u => u.heap[w.heap.size + 1 + 1]? = some (.cells (ruArr (clZ zs)) 50 (0, 0)) ∧ u.heap[w.heap.size + 1 + 1 + 1]? = some (.cells (quArr zs) 68 (0, 0))) (by kernel_rfl) ?_
        have hbd : Below W.heap.size W ({ heap := W.heap, tape := W.tape, drawn := W.drawn + 1, os := W.os, output := W.output } : World) := (Below.refl _ _).drew
        generalize ({ heap := W.heap, tape := W.tape, drawn := W.drawn + 1, os := W.os, output := W.output } : World) = Wd at *
        have hK1 := HK1.out
        have hK2 := HK2.out
        have hK3 := HK3.out
        have hSd : (fun u => u.heap[w.heap.size + 1 + 1]? = some (.cells (ruArr (clZ zs)) 50 (0, 0)) ∧ u.heap[w.heap.size + 1 + 1 + 1]? = some (.cells (quArr zs) 68 (0, 0))) Wd := ⟨blko hK2 hbd, blko hK3 hbd⟩
        try simp only [Act.put, List.getElem_toArray, List.getElem_cons_succ, List.getElem_cons_zero, List.setIfInBounds_toArray, List.set_cons_zero, List.set_cons_succ]
        refine wpAnyH_take (i := 0) (v := .agg (ruArr (clZ zs))) rfl (by kernel_rfl) (by kernel_rfl) (by kernel_rfl) (fun _ _ _ h => h) (Or.inl ⟨by kernel_rfl, fun W hW => rexec_load W _ _ _ rfl 0 (w.heap.size + 1 + 1) (clZ zs) (by kernel_rfl) (rBlk.of (Nat.zero_le _) HCl.out hW.1)⟩) hSd ?_
        try simp only [Act.put, List.getElem_toArray, List.getElem_cons_succ, List.getElem_cons_zero, List.setIfInBounds_toArray, List.set_cons_zero, List.set_cons_succ]
        refine wpAnyH_take (i := 1) (v := .agg (ruArr (clZ zs))) rfl (by kernel_rfl) (by kernel_rfl) (by kernel_rfl) (fun _ _ _ h => h) (Or.inl ⟨by kernel_rfl, fun W hW => rexec_load W _ _ _ rfl 0 (w.heap.size + 1 + 1) (clZ zs) (by kernel_rfl) (rBlk.of (Nat.zero_le _) HCl.out hW.1)⟩) hSd ?_
        try simp only [Act.put, List.getElem_toArray, List.getElem_cons_succ, List.getElem_cons_zero, List.setIfInBounds_toArray, List.set_cons_zero, List.set_cons_succ]
        refine wpAnyH_take (i := 3) (v := .agg (quArr zs)) rfl (by kernel_rfl) (by kernel_rfl) (by kernel_rfl) (fun _ _ _ h => h) (Or.inl ⟨by kernel_rfl, fun W hW => qexec_load W _ _ _ rfl 0 (w.heap.size + 1 + 1 + 1) zs (by kernel_rfl) (qBlk.of (Nat.zero_le _) HN.out hW.2)⟩) hSd ?_
        try simp only [Act.put, List.getElem_toArray, List.getElem_cons_succ, List.getElem_cons_zero, List.setIfInBounds_toArray, List.set_cons_zero, List.set_cons_succ]
        refine wpAnyH_one 2 (by kernel_rfl) ?_
        refine wpOp_call 45 #[.agg (ruArr (clZ zs))] rfl (by kernel_rfl) (rbx_call1 _ _ _ _ _ _ rfl _ (by kernel_rfl) (Tryd.call45 _ _)) ?_
        refine (HNu.out Wd).mono ?_
        rintro e1 V1 ⟨rfl, hb1⟩
        have hB1 := hbd.trans (hb1.mono hbd.size)
        have hS1 : (fun u => u.heap[w.heap.size + 1 + 1]? = some (.cells (ruArr (clZ zs)) 50 (0, 0)) ∧ u.heap[w.heap.size + 1 + 1 + 1]? = some (.cells (quArr zs) 68 (0, 0))) V1 := ⟨blko hK2 hB1, blko hK3 hB1⟩
        refine ⟨hS1, ?_⟩
        try simp only [Act.put, List.getElem_toArray, List.getElem_cons_succ, List.getElem_cons_zero, List.setIfInBounds_toArray, List.set_cons_zero, List.set_cons_succ]
        refine wpAnyH_take (i := 4) (v := .bool (decide (clZ zs = zs))) rfl (by kernel_rfl) (by kernel_rfl) (by kernel_rfl) (fun _ _ _ h => h) (Or.inl ⟨by kernel_rfl, fun W hW => qexec_eql W _ _ _ _ _ rfl (clZ zs) zs HCl.out HN.out (by kernel_rfl) (by kernel_rfl)⟩) hS1 ?_
        try simp only [Act.put, List.getElem_toArray, List.getElem_cons_succ, List.getElem_cons_zero, List.setIfInBounds_toArray, List.set_cons_zero, List.set_cons_succ]
        refine wpAnyH_one 5 (by kernel_rfl) ?_
        refine wpOp_wp rfl (by kernel_rfl) ?_
        have hz1 : rBlk V1 0 (w.heap.size + 1) rzeros := rBlk.of (Nat.zero_le _) rzeros_length (blko hK1 hB1)
        refine op_storeR _ _ rfl (w.heap.size + 1) rzeros (clZ zs) (by kernel_rfl) (by kernel_rfl) HCl.out hz1 ?_
        intro VF hRF hgF
        have hBF : Below w.heap.size W VF := grown_b1 (hB1.mono HBW.out.size) (Nat.le_trans HBW.out.size hB1.size) hgF (by omega)
        have hS2 : (fun u => u.heap[w.heap.size + 1 + 1]? = some (.cells (ruArr (clZ zs)) 50 (0, 0)) ∧ u.heap[w.heap.size + 1 + 1 + 1]? = some (.cells (quArr zs) 68 (0, 0))) VF := ⟨(hgF.block _ (Array.getElem?_eq_some_iff.1 hS1.1).1 (fun e => by simp at e)).trans hS1.1, (hgF.block _ (Array.getElem?_eq_some_iff.1 hS1.2).1 (fun e => by have := Option.some.inj e; omega)).trans hS1.2⟩
        refine ⟨hS2, ?_⟩
        try simp only [Act.put, List.getElem_toArray, List.getElem_cons_succ, List.getElem_cons_zero, List.setIfInBounds_toArray, List.set_cons_zero, List.set_cons_succ]
        refine tkX 6 (hS := hS2) (h := ?_)
        try simp only [Act.put, List.getElem_toArray, List.getElem_cons_succ, List.getElem_cons_zero, List.setIfInBounds_toArray, List.set_cons_zero, List.set_cons_succ]
        refine wpAnyH_done (by kernel_rfl) ?_ _
        have HT : Hid (decide (clZ zs = zs) = bOf (SkOK zs)) := clZ_ok HN.out
        rw [HT.out]
        have HBf : Hid (Below w.heap.size w VF) := HBW.out.trans hBF
        have HRf : Hid (rBlk VF 0 (w.heap.size + 1) (clZ zs)) := hRF
        clear hS1 hS2 hSd hB1 hb1 hz1 hgF
        go_wp2_with fail
        refine bodyPost_ret (v := .tuple #[.agg (ruArr (clZ zs)), .bool (bOf (SkOK zs))]) ?_ rfl ?_
        · rw [results_cell_tmp rfl]
          simp [asAddr, Result.andThen, rblk_load HRf.out]
        · exact ⟨clZ zs, rfl, HCl.out, clZ_same, HBf.out⟩
  · have hne : ((n : Int) != 256) = true := by simp; omega
    have HF : Hid (bOf (SkOK zs) = false) := bOf_f (fun h => h256 (HN.out.symm.trans h.1))
    have hB2 : rBlk W 0 (w.heap.size + 1 + 1) rzeros := rBlk.of (Nat.zero_le _) rzeros_length HK2.out
    have hB1 : rBlk W 0 (w.heap.size + 1) rzeros := rBlk.of (Nat.zero_le _) rzeros_length HK1.out
    have HB2 := hidd hB2
    have HB1 := hidd hB1
    clear h256 hB1 hB2
    go_wp2_with (first | (refine rwpB_load rfl _ rfl 0 (w.heap.size + 1 + 1) rzeros rfl HB2.out ?_) | (refine rwpB_store rfl _ _ rfl 0 (w.heap.size + 1) rzeros rzeros rfl rfl rzeros_length HB1.out ?_; intro W1 hR1 hg1))
    have HBf : Hid (Below w.heap.size w W1) := grown_b1 HBW.out HBW.out.size hg1 (by omega)
    refine bodyPost_ret (v := .tuple #[.agg (ruArr rzeros), .bool false]) ?_ rfl ?_
    · rw [results_cell_tmp rfl]
      simp [asAddr, Result.andThen, rblk_load hR1]
    · exact ⟨rzeros, by rw [HF.out], rzeros_length, fun h => absurd h (bOf_no HF.out), HBf.out⟩
end Go.Proofs.YtboocdiilbcdcaaDoor
