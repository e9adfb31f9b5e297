import Derived.Test.YtmnfioghhdgciaaDoorWildJ03
import Derived.Test.YtmnfioghhdgciaaDoorWildJ07
import Derived.Test.YtmnfioghhdgciaaDoorWildJ14
namespace Go.Proofs.YtmnfioghhdgciaaDoor
open Go Go.RowKit
set_option linter.unusedVariables false
set_option linter.unusedSimpArgs false
set_option maxRecDepth 100000

/-! place: the set of trait. -/
theorem Tryd.infoT : (Tryd.prog.info? 133).map (fun i => (i.zero, i.size, i.bytes)) = some (some (.agg #[.int .i64 0, .int .i64 0, .int .i64 0]), 3, 24) := by kernel_rfl
def keyT : KeyT (Int × Nat × Nat) := ⟨133, 108, 111, 3, (fun x => Value.agg #[.int .i64 x.1, .int .i64 x.2.1, .int .i64 x.2.2]), fun x => #[Value.int .i64 x.1, .int .i64 x.2.1, .int .i64 x.2.2], (fun x => (-9223372036854775808 ≤ x.1 ∧ x.1 ≤ 9223372036854775807) ∧ x.2.1 ≤ 9223372036854775807 ∧ x.2.2 ≤ 9223372036854775807)⟩
theorem laidT : laidOutB Tryd.prog = true := by kernel_rfl
theorem lawT : WideMaps.KeyLaw Tryd.prog 133 := deep_law_laid laidT (m := 2) (by omega) (of_decide_eq_true (by kernel_rfl)) (by kernel_rfl) (by kernel_rfl)
theorem keyedT : Maps.Keyed Tryd.prog 133 := Maps.Keyed.of_law lawT
theorem cellsT : Tryd.prog.cellsOf 133 = 3 := by kernel_rfl
theorem typeT : Tryd.prog.keyType 133 = true := by kernel_rfl
theorem intCellsT : Tryd.prog.cellsOf 3 = 1 := by kernel_rfl
theorem okT : (keyT).Ok := by
  refine ⟨Tryd.underlying108, keyedT, fun l h => ?_, fun x y h => ?_⟩
  · obtain ⟨a, b, c⟩ := l
    obtain ⟨⟨h1, h2⟩, h3, h4⟩ := h
    dsimp only at h1 h2 h3 h4
    have w1 : (Lit.int .i64 a).wf = true := WalkArith.wf_i64 (by omega)
    have w2 : (Lit.int .i64 (b : Int)).wf = true := WalkArith.wf_i64 (by omega)
    have w3 : (Lit.int .i64 (c : Int)).wf = true := WalkArith.wf_i64 (by omega)
    obtain ⟨m, hm⟩ : ∃ m, Tryd.prog.types.size = m + 1 := ⟨Tryd.prog.types.size - 1, by kernel_rfl⟩
    have hf : (Value.agg #[.int .i64 a, .int .i64 (b : Int), .int .i64 (c : Int)]).formed Tryd.prog 133 = true := by simp [Value.formed, Tryd.underlying133, cellsT]
    have hk : Tryd.prog.keyLits (Tryd.prog.types.size + 1) 133 (Value.agg #[.int .i64 a, .int .i64 (b : Int), .int .i64 (c : Int)]).cells.toList = some [.int .i64 a, .int .i64 (b : Int), .int .i64 (c : Int)] := by
      rw [hm]
      simp [Program.keyLits, Tryd.underlying133, Tryd.underlying3, cellsT, intCellsT, Value.cells, List.range, List.range.loop, w1, w2, w3]
    refine ⟨.string (keyBytes [.int .i64 a, .int .i64 (b : Int), .int .i64 (c : Int)]), ?_⟩
    show keyOf Tryd.prog 133 (Value.agg #[.int .i64 a, .int .i64 (b : Int), .int .i64 (c : Int)]) = _
    unfold keyOf
    rw [Tryd.underlying133]
    simp only [typeT, hf, Bool.and_self, if_true, hk, Option.map_some]
  · obtain ⟨a, b, c⟩ := x
    obtain ⟨a', b', c'⟩ := y
    simp [keyT] at h
    obtain ⟨h1, h2, h3⟩ := h
    subst h1
    rw [show b = b' by omega, show c = c' by omega]
theorem updT (W W' : World) (ρ : Operand → Value) (o : Oper) (m k v : Operand) (ho : o.op = .mapUpdate 108 m k v) (vm vk vv : Value) (h1 : ρ m = vm) (h2 : ρ k = vk) (h3 : ρ v = vv) (h : (Instr.mapUpdate 108 vm vk vv).run Tryd.prog W = .ok () W') : (execOp ρ o).run Tryd.prog W = .ok .skip W' := by
  unfold execOp
  simp only [ho, h1, h2, h3, h, Sem.run_bind, Sem.run_pure, Result.andThen_ok]
theorem builtT (W : World) (ρ : Operand → Value) (o : Oper) (y : Operand) (ho : o.op = .buildSlice 109 1 #[(0, y)]) (x : (Int × Nat × Nat)) (hx : ρ y = .agg #[.int .i64 x.1, .int .i64 x.2.1, .int .i64 x.2.2]) :
    (execOp ρ o).run Tryd.prog W = .ok (.value (.slice (some ⟨W.heap.size, 0, none⟩) 1 1)) (W.alloc (.cells #[.int .i64 x.1, .int .i64 x.2.1, .int .i64 x.2.2] 133)) := by
  unfold execOp
  simp only [ho, hx, Sem.run_bind, Sem.run_pure, Result.andThen_ok]
  go_simp
theorem loadST (W : World) (ρ : Operand → Value) (o : Oper) (x : Operand) (ho : o.op = .load 109 x) (b off n c : Nat) (ad : Option Addr) (hx : ρ x = .pointer (some ⟨b, off, none⟩)) (h0 : W.cell? ⟨b, off, none⟩ = some (.slice ad n c)) : (execOp ρ o).run Tryd.prog W = .ok (.value (.slice ad n c)) W := by
  unfold execOp
  simp only [ho, Instr.loadAt, Instr.sureAddr, hx, Sem.run_bind, Sem.run_pure, Result.andThen_ok]
  go_simp
theorem storedT (W : World) (ρ : Operand → Value) (o : Oper) (x y : Operand) (ho : o.op = .store 109 x y) (b off g n c : Nat) (u : Value) (hx : ρ x = .pointer (some ⟨b, off, none⟩)) (hy : ρ y = .slice (some ⟨g, 0, none⟩) n c) (hc : W.cell? ⟨b, off, none⟩ = some u) (hf : W.frozen? ⟨b, off, none⟩ = false) :
    (execOp ρ o).run Tryd.prog W = .ok .skip (W.setCell ⟨b, off, none⟩ (.slice (some ⟨g, 0, none⟩) n c)) := by
  unfold execOp
  simp only [ho, Instr.storeAt, Instr.sureAddr, hx, hy, Sem.run_bind, Sem.run_pure, Result.andThen_ok]
  go_simp
theorem wpOp_pushkT {W : World} {ops : Array Oper} {i : Nat} {o : Oper} {a : Act} {K : Act → World → Prop} {Q : Exit → Act → World → Prop} (hio : ops[i]? = some o) (hw : Region.wanted o (yielded ops a.tmps) = true) (hgd : o.guard = none) (s x : Operand)
    (ho : o.op = .call { callee := .builtin .append, args := #[s, x], argTypes := #[109, 109] }) (i0 : TypeInfo) (hi : Tryd.prog.info? 133 = some i0) (hz : i0.zero = some (.agg #[.int .i64 0, .int .i64 0, .int .i64 0])) (hsize : i0.size = 3) (hby : i0.bytes = 24)
    (base : Nat) (v : Value) (n : Nat) (xs : List Value) (hs : a.eval s = v) (hown : W.ownsRow base 133 3 v n xs) (k : (Int × Nat × Nat)) (ad : Nat) (had : ad = W.heap.size) (hx : a.eval x = .slice (some ⟨ad, 0, none⟩) 1 1) (hb : (n + 1) * 24 ≤ 140737488355328) (hbase : base ≤ W.heap.size)
    (h : ∀ g cap w', w'.ownsRow base 133 3 (.slice (some ⟨g, 0, none⟩) (n + 1) cap) (n + 1) (xs ++ ((keyT).cells k).toList) → But (fun b => v.ownBlock = some b) W w' → (∀ b, (Value.slice (some ⟨g, 0, none⟩) (n + 1) cap).ownBlock = some b → v.ownBlock = some b ∨ W.heap.size ≤ b) → K (a.put o.dst (.slice (some ⟨g, 0, none⟩) (n + 1) cap)) w') :
    wpOp Tryd.prog ops Q i K a (W.alloc (.cells ((keyT).cells k) 133)) := by
  refine wpOp_wp hio hw ?_
  have := step_pushk (ops := ops) (E := True) (Q := Q) hgd s x 109 133 ho i0 (.agg #[.int .i64 0, .int .i64 0, .int .i64 0]) 3 24 Tryd.underlying109 hi hz hsize hby rfl (by decide) base v n xs hs hown ((keyT).cells k) rfl (by intro y hy; simp [keyT] at hy; rcases hy with rfl | rfl | rfl <;> rfl) ad had hx hb (by decide) hbase h
  rwa [if_pos hw] at this
theorem nilMapT (w : World) : (binOp BinOp.eql 108 (.map none) (.map none)).run Tryd.prog w = .ok (.bool true) w := by first | kernel_rfl | simp [binOp, Tryd.underlying108] | go_simp
theorem someMapT (w : World) (mb : Nat) : (binOp BinOp.eql 108 (.map (some mb)) (.map none)).run Tryd.prog w = .ok (.bool false) w := by first | kernel_rfl | simp [binOp, Tryd.underlying108] | go_simp
theorem makeMapT (w : World) : (Instr.makeMap 108 none).run Tryd.prog w = .ok (.map (some w.heap.size)) (w.alloc (.map #[] 0)) := by first | kernel_rfl | simp [Instr.makeMap, Tryd.underlying108] | go_simp
set_option maxHeartbeats 4000000 in
theorem placeT_any (base sb : Nat) (vm vs : Value) (L : List (Int × Nat × Nat)) (x : (Int × Nat × Nat)) (W : World) (hok : (keyT).ok x) (hb : (L.length + 1) * 24 ≤ 140737488355328) (hbase : base ≤ W.heap.size) (h : SetAt keyT W base sb vm vs L) :
    Calls Tryd.prog 70 #[.pointer (some ⟨sb, 0, none⟩), (keyT).enc x] W (PlPost keyT W base sb vm vs L x) := by
  obtain ⟨i0, hi0, hz0, hz1, hz2⟩ := info_parts Tryd.infoT
  have hW : Below W.heap.size W (W.alloc (.cells #[.int .i64 x.1, .int .i64 x.2.1, .int .i64 x.2.2] 133)) := (Below.refl _ _).alloc (Nat.le_refl _) _
  have hbx : (W.alloc (.cells #[.int .i64 x.1, .int .i64 x.2.1, .int .i64 x.2.2] 133)).heap[W.heap.size]? = some (.cells #[.int .i64 x.1, .int .i64 x.2.1, .int .i64 x.2.2] 133) := heap_alloc_new _ _
  have hz : (W.alloc (.cells #[.int .i64 x.1, .int .i64 x.2.1, .int .i64 x.2.2] 133)).heap.size = W.heap.size + 1 := by simp
  have h0 := h.below hW
  have hmn := nilMapT
  have hms := someMapT
  have HNB : Hid (∀ b, SetB sb vm vs b → b ≠ W.heap.size) := fun b hb' e => by have := (h.blk hb').1; omega
  have hoks := h.oks
  have hnd := h.nodup
  show Calls Tryd.prog 70 #[.pointer (some ⟨sb, 0, none⟩), .agg #[.int .i64 x.1, .int .i64 x.2.1, .int .i64 x.2.2]] W _
  go_enter Tryd.func70, Tryd.ntmps70
  go_wp2_with fail
  clear h
  generalize hW0 : W.alloc (.cells #[.int .i64 x.1, .int .i64 x.2.1, .int .i64 x.2.2] 133) = W0 at *
  clear hW0
  generalize hn0 : W.heap.size = n0 at *
  have Hn0 := hidd hn0
  have HW := hidd hW
  have HZ := hidd hz
  have HBX := hidd hbx
  have H0 := hidd h0
  have c0 : W0.cell? ⟨sb, 0, none⟩ = some vm := blkc h0.box 0
  have b0 : W0.cell? ⟨n0, 0, none⟩ = some (.int .i64 x.1) := blkc hbx 0
  have b1 : W0.cell? ⟨n0, 1, none⟩ = some (.int .i64 x.2.1) := blkc hbx 1
  have b2 : W0.cell? ⟨n0, 2, none⟩ = some (.int .i64 x.2.2) := blkc hbx 2
  clear hn0 hW hz hbx
  obtain ⟨ad, cp, rfl⟩ : ∃ ad cp, vs = .slice ad L.length cp := by
    rcases h0.row.2 with ⟨h1, h2⟩ | ⟨g, cap, cur, h1, _⟩
    · exact ⟨none, 0, by rw [h1, h2]⟩
    · exact ⟨_, cap, h1⟩
  by_cases hx : x ∈ L
  · obtain ⟨mb, rfl, hm1, hm2⟩ : ∃ mb, vm = .map (some mb) ∧ base ≤ mb ∧ MapK keyT W0 mb L := by
      rcases h0.map with ⟨_, rfl⟩ | h1
      · simp at hx
      · exact h1
    obtain ⟨j, h1, h2⟩ : ∃ j : Nat, L[j]? = some x ∧ (Instr.lookup 108 (.map (some mb)) (.agg #[.int .i64 x.1, .int .i64 x.2.1, .int .i64 x.2.2]) true).run Tryd.prog W0.drew = .ok (.tuple #[.int .i64 (j : Int), .bool true]) W0.drew := by
      rcases (hm2.keep (w' := W0.drew) rfl).look okT hoks x hok with ⟨h1, _⟩ | ⟨j, h1, h2⟩
      · exact absurd hx h1
      · exact ⟨j, h1, h2⟩
    have HJ : Hid (ix L x = j) := ix_of hnd h1
    have HM := hidd (meet_old hx)
    clear h0 h1 hm2 hx hnd hoks
    refine wp_region_held (S := fun u => u.cell? ⟨sb, 0, none⟩ = some (.map (some mb)) ∧ u.cell? ⟨n0, 0, none⟩ = some (.int .i64 x.1) ∧ u.cell? ⟨n0, 1, none⟩ = some (.int .i64 x.2.1) ∧ u.cell? ⟨n0, 2, none⟩ = some (.int .i64 x.2.2) ∧ (Instr.lookup 108 (.map (some mb)) (.agg #[.int .i64 x.1, .int .i64 x.2.1, .int .i64 x.2.2]) true).run Tryd.prog u = .ok (.tuple #[.int .i64 (j : Int), .bool true]) u) (by kernel_rfl) ?_
    have hS : (fun u => u.cell? ⟨sb, 0, none⟩ = some (.map (some mb)) ∧ u.cell? ⟨n0, 0, none⟩ = some (.int .i64 x.1) ∧ u.cell? ⟨n0, 1, none⟩ = some (.int .i64 x.2.1) ∧ u.cell? ⟨n0, 2, none⟩ = some (.int .i64 x.2.2) ∧ (Instr.lookup 108 (.map (some mb)) (.agg #[.int .i64 x.1, .int .i64 x.2.1, .int .i64 x.2.2]) true).run Tryd.prog u = .ok (.tuple #[.int .i64 (j : Int), .bool true]) u) ({ heap := W0.heap, tape := W0.tape, drawn := W0.drawn + 1, os := W0.os, output := W0.output } : World) := ⟨c0, b0, b1, b2, h2⟩
    have hBd : Below W0.heap.size W0 ({ heap := W0.heap, tape := W0.tape, drawn := W0.drawn + 1, os := W0.os, output := W0.output } : World) := (Below.refl _ _).drew
    generalize ({ heap := W0.heap, tape := W0.tape, drawn := W0.drawn + 1, os := W0.os, output := W0.output } : World) = W1 at *
    try simp only [Act.put, List.getElem_toArray, List.getElem_cons_succ, List.getElem_cons_zero, List.setIfInBounds_toArray, List.set_cons_zero, List.set_cons_succ]
    refine tkX 0 (hS := hS) (h := ?_)
    try simp only [Act.put, List.getElem_toArray, List.getElem_cons_succ, List.getElem_cons_zero, List.setIfInBounds_toArray, List.set_cons_zero, List.set_cons_succ]
    refine tkX 1 (hS := hS) (h := ?_)
    try simp only [Act.put, List.getElem_toArray, List.getElem_cons_succ, List.getElem_cons_zero, List.setIfInBounds_toArray, List.set_cons_zero, List.set_cons_succ]
    refine tkX 2 (hS := hS) (h := ?_)
    try simp only [Act.put, List.getElem_toArray, List.getElem_cons_succ, List.getElem_cons_zero, List.setIfInBounds_toArray, List.set_cons_zero, List.set_cons_succ]
    refine tkX 3 (hS := hS) (h := ?_)
    try simp only [Act.put, List.getElem_toArray, List.getElem_cons_succ, List.getElem_cons_zero, List.setIfInBounds_toArray, List.set_cons_zero, List.set_cons_succ]
    refine tkX 4 (v := .agg #[.int .i64 x.1, .int .i64 x.2.1, .int .i64 x.2.2]) (hS := hS) (h := ?_)
    try simp only [Act.put, List.getElem_toArray, List.getElem_cons_succ, List.getElem_cons_zero, List.setIfInBounds_toArray, List.set_cons_zero, List.set_cons_succ]
    refine tkX 5 (v := .tuple #[.int .i64 (j : Int), .bool true]) (hS := hS) (h := ?_)
    try simp only [Act.put, List.getElem_toArray, List.getElem_cons_succ, List.getElem_cons_zero, List.setIfInBounds_toArray, List.set_cons_zero, List.set_cons_succ]
    refine tkX 6 (hS := hS) (h := ?_)
    try simp only [Act.put, List.getElem_toArray, List.getElem_cons_succ, List.getElem_cons_zero, List.setIfInBounds_toArray, List.set_cons_zero, List.set_cons_succ]
    refine tkX 7 (hS := hS) (h := ?_)
    try simp only [Act.put, List.getElem_toArray, List.getElem_cons_succ, List.getElem_cons_zero, List.setIfInBounds_toArray, List.set_cons_zero, List.set_cons_succ]
    refine tkX 8 (hS := hS) (h := ?_)
    try simp only [Act.put, List.getElem_toArray, List.getElem_cons_succ, List.getElem_cons_zero, List.setIfInBounds_toArray, List.set_cons_zero, List.set_cons_succ]
    refine tkX 9 (hS := hS) (h := ?_)
    try simp only [Act.put, List.getElem_toArray, List.getElem_cons_succ, List.getElem_cons_zero, List.setIfInBounds_toArray, List.set_cons_zero, List.set_cons_succ]
    refine tkX 10 (hS := hS) (h := ?_)
    try simp only [Act.put, List.getElem_toArray, List.getElem_cons_succ, List.getElem_cons_zero, List.setIfInBounds_toArray, List.set_cons_zero, List.set_cons_succ]
    refine wpAnyH_done (by kernel_rfl) ?_ _
    clear hS h2 c0 b0 b1 b2
    have HBd := hidd hBd
    clear hBd
    go_wp2_with fail
    go_ret
    exact ⟨by rw [HM.out, HJ.out]; rfl, _, _, by rw [HM.out]; exact H0.out.below HBd.out, But.of_below (by rw [Hn0.out]; exact HW.out.trans (HBd.out.mono (by rw [HZ.out]; omega))), fun b hb => Or.inl hb, fun b hb => Or.inl hb⟩
  · have HI : Hid (ix (meet L x) x = L.length) := by show _ = _; rw [meet_fresh hx, ix_new hx]
    have HM := hidd (meet_fresh hx)
    have HX := hidd hx
    have HOK := hidd hoks
    have HOKS : Hid (∀ y ∈ L ++ [x], (keyT).ok y) := fun y hy => by
      rcases List.mem_append.1 hy with h1 | h1
      · exact hoks y h1
      · rw [List.mem_singleton.1 h1]; exact hok
    have HND : Hid ((L ++ [x]).Nodup) := by
      show List.Nodup _
      rw [List.nodup_append]
      exact ⟨hnd, by simp, fun a ha b hb' e => hx (by rw [List.mem_singleton.1 hb'] at e; rw [← e]; exact ha)⟩
    have hln : ((L.length : Nat) : Int) ≤ 140737488355328 := by omega
    rcases h0.map with ⟨rfl, hl⟩ | ⟨mb, rfl, hmb, hmk⟩
    · have h2 := look_nil okT W0.drew x hok
      have HL := hidd hl
      clear h0 hl hx hnd hoks
      refine wp_region_held (S := fun u => u.cell? ⟨sb, 0, none⟩ = some (.map none) ∧ u.cell? ⟨n0, 0, none⟩ = some (.int .i64 x.1) ∧ u.cell? ⟨n0, 1, none⟩ = some (.int .i64 x.2.1) ∧ u.cell? ⟨n0, 2, none⟩ = some (.int .i64 x.2.2) ∧ (Instr.lookup 108 (.map none) (.agg #[.int .i64 x.1, .int .i64 x.2.1, .int .i64 x.2.2]) true).run Tryd.prog u = .ok (.tuple #[.int .i64 0, .bool false]) u) (by kernel_rfl) ?_
      have hS : (fun u => u.cell? ⟨sb, 0, none⟩ = some (.map none) ∧ u.cell? ⟨n0, 0, none⟩ = some (.int .i64 x.1) ∧ u.cell? ⟨n0, 1, none⟩ = some (.int .i64 x.2.1) ∧ u.cell? ⟨n0, 2, none⟩ = some (.int .i64 x.2.2) ∧ (Instr.lookup 108 (.map none) (.agg #[.int .i64 x.1, .int .i64 x.2.1, .int .i64 x.2.2]) true).run Tryd.prog u = .ok (.tuple #[.int .i64 0, .bool false]) u) ({ heap := W0.heap, tape := W0.tape, drawn := W0.drawn + 1, os := W0.os, output := W0.output } : World) := ⟨c0, b0, b1, b2, h2⟩
      have hBd : Below W0.heap.size W0 ({ heap := W0.heap, tape := W0.tape, drawn := W0.drawn + 1, os := W0.os, output := W0.output } : World) := (Below.refl _ _).drew
      generalize ({ heap := W0.heap, tape := W0.tape, drawn := W0.drawn + 1, os := W0.os, output := W0.output } : World) = W1 at *
      try simp only [Act.put, List.getElem_toArray, List.getElem_cons_succ, List.getElem_cons_zero, List.setIfInBounds_toArray, List.set_cons_zero, List.set_cons_succ]
      refine tkX 0 (hS := hS) (h := ?_)
      try simp only [Act.put, List.getElem_toArray, List.getElem_cons_succ, List.getElem_cons_zero, List.setIfInBounds_toArray, List.set_cons_zero, List.set_cons_succ]
      refine tkX 1 (hS := hS) (h := ?_)
      try simp only [Act.put, List.getElem_toArray, List.getElem_cons_succ, List.getElem_cons_zero, List.setIfInBounds_toArray, List.set_cons_zero, List.set_cons_succ]
      refine tkX 2 (hS := hS) (h := ?_)
      try simp only [Act.put, List.getElem_toArray, List.getElem_cons_succ, List.getElem_cons_zero, List.setIfInBounds_toArray, List.set_cons_zero, List.set_cons_succ]
      refine tkX 3 (hS := hS) (h := ?_)
      try simp only [Act.put, List.getElem_toArray, List.getElem_cons_succ, List.getElem_cons_zero, List.setIfInBounds_toArray, List.set_cons_zero, List.set_cons_succ]
      refine tkX 4 (v := .agg #[.int .i64 x.1, .int .i64 x.2.1, .int .i64 x.2.2]) (hS := hS) (h := ?_)
      try simp only [Act.put, List.getElem_toArray, List.getElem_cons_succ, List.getElem_cons_zero, List.setIfInBounds_toArray, List.set_cons_zero, List.set_cons_succ]
      refine tkX 5 (v := .tuple #[.int .i64 0, .bool false]) (hS := hS) (h := ?_)
      try simp only [Act.put, List.getElem_toArray, List.getElem_cons_succ, List.getElem_cons_zero, List.setIfInBounds_toArray, List.set_cons_zero, List.set_cons_succ]
      refine tkX 6 (hS := hS) (h := ?_)
      try simp only [Act.put, List.getElem_toArray, List.getElem_cons_succ, List.getElem_cons_zero, List.setIfInBounds_toArray, List.set_cons_zero, List.set_cons_succ]
      refine tkX 7 (hS := hS) (h := ?_)
      try simp only [Act.put, List.getElem_toArray, List.getElem_cons_succ, List.getElem_cons_zero, List.setIfInBounds_toArray, List.set_cons_zero, List.set_cons_succ]
      refine tkX 8 (hS := hS) (h := ?_)
      try simp only [Act.put, List.getElem_toArray, List.getElem_cons_succ, List.getElem_cons_zero, List.setIfInBounds_toArray, List.set_cons_zero, List.set_cons_succ]
      refine tkX 9 (hS := hS) (h := ?_)
      try simp only [Act.put, List.getElem_toArray, List.getElem_cons_succ, List.getElem_cons_zero, List.setIfInBounds_toArray, List.set_cons_zero, List.set_cons_succ]
      refine tkX 10 (hS := hS) (h := ?_)
      try simp only [Act.put, List.getElem_toArray, List.getElem_cons_succ, List.getElem_cons_zero, List.setIfInBounds_toArray, List.set_cons_zero, List.set_cons_succ]
      refine wpAnyH_done (by kernel_rfl) ?_ _
      have H1 := hidd (H0.out.below hBd)
      have HX1 := hidd (blko HBX.out hBd)
      have HBd := hidd hBd
      have hmkm : (Instr.makeMap 108 none).run Tryd.prog W1 = .ok (.map (some W1.heap.size)) (W1.alloc (.map #[] 0)) := makeMapT W1
      have hsb := H1.out.lt
      have hbA0 : (W1.alloc (.map #[] 0)).heap[sb]? = some (.cells #[.map none, .slice ad L.length cp] 111) := (Below.heap_alloc _ _ _ hsb).trans H1.out.box
      have hb2 : ((W1.alloc (.map #[] 0)).setCell ⟨sb, 0, none⟩ (.map (some W1.heap.size))).heap[sb]? = some (.cells #[.map (some W1.heap.size), .slice ad L.length cp] 111) := by
        have := blk_setk hbA0 0 (.map (some W1.heap.size))
        simpa using this
      have HM2 : Hid (MapK keyT ((W1.alloc (.map #[] 0)).setCell ⟨sb, 0, none⟩ (.map (some W1.heap.size))) W1.heap.size L) := by
        show MapK _ _ _ _
        rw [HL.out]
        exact (mapK_new W1).keep (heap_set_other _ sb 0 _ _ (by omega))
      have hn0s : n0 ≠ sb := fun e => HNB.out sb (Or.inl rfl) e.symm
      have bx2 : ((W1.alloc (.map #[] 0)).setCell ⟨sb, 0, none⟩ (.map (some W1.heap.size))).heap[n0]? = some (.cells #[.int .i64 x.1, .int .i64 x.2.1, .int .i64 x.2.2] 133) := by
        rw [heap_set_other _ sb 0 _ _ hn0s, Below.heap_alloc _ _ _ (Array.getElem?_eq_some_iff.1 HX1.out).1]; exact HX1.out
      have HO2 : Hid (((W1.alloc (.map #[] 0)).setCell ⟨sb, 0, none⟩ (.map (some W1.heap.size))).ownsRow base 133 3 (.slice ad L.length cp) L.length (rowK keyT L)) := own_congr H1.out.row (fun b hk => by
        obtain ⟨_, cur, h2⟩ := own_blk H1.out.row hk
        rw [heap_set_other _ sb 0 _ b (blk_ne h2 H1.out.box (by decide)), Below.heap_alloc _ _ _ (Array.getElem?_eq_some_iff.1 h2).1])
      have HNE : Hid (W1.heap.size ≠ sb) := by show _ ≠ _; omega
      have HNM : Hid (W1.heap.size ≠ n0) := by have := (Array.getElem?_eq_some_iff.1 HX1.out).1; show _ ≠ _; omega
      have hB1 : Below n0 W W1 := HW.out.trans (hBd.mono (by rw [HZ.out]; omega))
      have HBt2 : Hid (But (SetB sb (.map none) (.slice ad L.length cp)) W ((W1.alloc (.map #[] 0)).setCell ⟨sb, 0, none⟩ (.map (some W1.heap.size)))) := ((But.of_below (by rw [Hn0.out]; exact hB1)).alloc _).set sb 0 _ (Or.inl rfl)
      have HMB2 : Hid (Value.map none = .map (some W1.heap.size) ∨ W.heap.size ≤ W1.heap.size) := Or.inr hB1.size
      have HMB : Hid (SetB sb (.map none) (.slice ad L.length cp) W1.heap.size ∨ W.heap.size ≤ W1.heap.size) := Or.inr hB1.size
      have HMBb : Hid (base ≤ W1.heap.size) := Nat.le_trans hbase (by rw [← Hn0.out]; exact hB1.size)
      have hcap2 : base ≤ ((W1.alloc (.map #[] 0)).setCell ⟨sb, 0, none⟩ (.map (some W1.heap.size))).heap.size := by have := HMBb.out; simp; omega
      have fzA : ∀ j, (W1.alloc (.map #[] 0)).frozen? ⟨sb, j, none⟩ = false := fun j => frozen_of_row _ sb j _ _ hbA0
      have cA : (W1.alloc (.map #[] 0)).cell? ⟨sb, 0, none⟩ = some (.map none) := blkc hbA0 0
      have cB : W1.cell? ⟨sb, 0, none⟩ = some (.map none) := blkc H1.out.box 0
      have cC : ((W1.alloc (.map #[] 0)).setCell ⟨sb, 0, none⟩ (.map (some W1.heap.size))).cell? ⟨sb, 1, none⟩ = some (.slice ad L.length cp) := blkc hb2 1
      clear hS h2 c0 b0 b1 b2 hBd hsb hn0s hbA0 hB1
      go_wp2_with fail
      clear cA cB cC fzA hmkm
      generalize (W1.alloc (.map #[] 0)).setCell ⟨sb, 0, none⟩ (.map (some W1.heap.size)) = W2 at *
      generalize W1.heap.size = mb at *
      have d0 : W2.cell? ⟨sb, 0, none⟩ = some (.map (some mb)) := blkc hb2 0
      have e0 : W2.cell? ⟨n0, 0, none⟩ = some (.int .i64 x.1) := blkc bx2 0
      have e1 : W2.cell? ⟨n0, 1, none⟩ = some (.int .i64 x.2.1) := blkc bx2 1
      have e2 : W2.cell? ⟨n0, 2, none⟩ = some (.int .i64 x.2.2) := blkc bx2 2
      refine wp_region_held (S := fun u => u.cell? ⟨sb, 0, none⟩ = some (.map (some mb)) ∧ u.cell? ⟨n0, 0, none⟩ = some (.int .i64 x.1) ∧ u.cell? ⟨n0, 1, none⟩ = some (.int .i64 x.2.1) ∧ u.cell? ⟨n0, 2, none⟩ = some (.int .i64 x.2.2)) (by kernel_rfl) ?_
      have hS6 : (fun u => u.cell? ⟨sb, 0, none⟩ = some (.map (some mb)) ∧ u.cell? ⟨n0, 0, none⟩ = some (.int .i64 x.1) ∧ u.cell? ⟨n0, 1, none⟩ = some (.int .i64 x.2.1) ∧ u.cell? ⟨n0, 2, none⟩ = some (.int .i64 x.2.2)) ({ heap := W2.heap, tape := W2.tape, drawn := W2.drawn + 1, os := W2.os, output := W2.output } : World) := ⟨d0, e0, e1, e2⟩
      have hB6 : Below W2.heap.size W2 ({ heap := W2.heap, tape := W2.tape, drawn := W2.drawn + 1, os := W2.os, output := W2.output } : World) := (Below.refl _ _).drew
      generalize ({ heap := W2.heap, tape := W2.tape, drawn := W2.drawn + 1, os := W2.os, output := W2.output } : World) = Wd at *
      try simp only [Act.put, List.getElem_toArray, List.getElem_cons_succ, List.getElem_cons_zero, List.setIfInBounds_toArray, List.set_cons_zero, List.set_cons_succ]
      refine tkX 0 (hS := hS6) (h := ?_)
      try simp only [Act.put, List.getElem_toArray, List.getElem_cons_succ, List.getElem_cons_zero, List.setIfInBounds_toArray, List.set_cons_zero, List.set_cons_succ]
      refine tkX 1 (hS := hS6) (h := ?_)
      try simp only [Act.put, List.getElem_toArray, List.getElem_cons_succ, List.getElem_cons_zero, List.setIfInBounds_toArray, List.set_cons_zero, List.set_cons_succ]
      refine tkX 2 (hS := hS6) (h := ?_)
      try simp only [Act.put, List.getElem_toArray, List.getElem_cons_succ, List.getElem_cons_zero, List.setIfInBounds_toArray, List.set_cons_zero, List.set_cons_succ]
      refine tkX 3 (hS := hS6) (h := ?_)
      try simp only [Act.put, List.getElem_toArray, List.getElem_cons_succ, List.getElem_cons_zero, List.setIfInBounds_toArray, List.set_cons_zero, List.set_cons_succ]
      refine tkX 4 (v := .agg #[.int .i64 x.1, .int .i64 x.2.1, .int .i64 x.2.2]) (hS := hS6) (h := ?_)
      try simp only [Act.put, List.getElem_toArray, List.getElem_cons_succ, List.getElem_cons_zero, List.setIfInBounds_toArray, List.set_cons_zero, List.set_cons_succ]
      refine tkX 5 (hS := hS6) (h := ?_)
      obtain ⟨W3, hput, hm3, hg3, hz3⟩ := (HM2.out.keep (hB6.block _ HM2.out.lt)).put okT HOK.out x hok HX.out
      try simp only [Act.put, List.getElem_toArray, List.getElem_cons_succ, List.getElem_cons_zero, List.setIfInBounds_toArray, List.set_cons_zero, List.set_cons_succ]
      refine wpAnyH_one 6 (by kernel_rfl) ?_
      refine wpOp_skip W3 rfl (by kernel_rfl) (updT _ _ _ _ _ _ _ rfl _ _ _ (by kernel_rfl) (by kernel_rfl) (by kernel_rfl) hput) ?_
      have hb3 : W3.heap[sb]? = some (.cells #[.map (some mb), .slice ad L.length cp] 111) := (hg3.block sb (Nat.lt_of_lt_of_le (Array.getElem?_eq_some_iff.1 hb2).1 hB6.size) (fun e => HNE.out (by simpa using e.symm))).trans (blko hb2 hB6)
      have bx3 : W3.heap[n0]? = some (.cells #[.int .i64 x.1, .int .i64 x.2.1, .int .i64 x.2.2] 133) := (hg3.block n0 (Nat.lt_of_lt_of_le (Array.getElem?_eq_some_iff.1 bx2).1 hB6.size) (fun e => HNM.out (by simpa using e.symm))).trans (blko bx2 hB6)
      refine ⟨⟨blkc hb3 0, blkc bx3 0, blkc bx3 1, blkc bx3 2⟩, ?_⟩
      try simp only [Act.put, List.getElem_toArray, List.getElem_cons_succ, List.getElem_cons_zero, List.setIfInBounds_toArray, List.set_cons_zero, List.set_cons_succ]
      refine wpAnyH_done (by kernel_rfl) ?_ _
      have HO3 : Hid (W3.ownsRow base 133 3 (.slice ad L.length cp) L.length (rowK keyT L)) := own_congr HO2.out (fun b hk => (hg3.block b (Nat.lt_of_lt_of_le (Array.getElem?_eq_some_iff.1 (own_blk HO2.out hk).2.choose_spec).1 hB6.size) (fun e => by
        obtain ⟨_, cur, h2⟩ := own_blk HO2.out hk
        obtain ⟨es, c, h3, _⟩ := HM2.out
        have e' : b = mb := by simpa using e
        rw [e', h3] at h2
        cases h2)).trans (hB6.block b (Array.getElem?_eq_some_iff.1 (own_blk HO2.out hk).2.choose_spec).1))
      have HBt3 : Hid (But (SetB sb (.map none) (.slice ad L.length cp)) W W3) := (HBt2.out.trans (But.of_below (X := fun _ => False) hB6) (fun _ _ h => h) (fun _ _ h => h.elim)).grown hg3 (fun k hk => by
        have : mb = k := by simpa using hk
        subst this; exact HMB.out)
      have hcap3 : base ≤ W3.heap.size := by rw [hz3]; exact Nat.le_trans hcap2 hB6.size
      have HM3 := hidd hm3
      have HB3 := hidd hb3
      have HX3 := hidd bx3
      have f1 : W3.cell? ⟨sb, 1, none⟩ = some (.slice ad L.length cp) := blkc hb3 1
      clear hput hm3 hg3 hz3 hS6 hB6 d0
      go_wp2_with fail
      refine wp_region_held (S := fun u => u.cell? ⟨n0, 0, none⟩ = some (.int .i64 x.1) ∧ u.cell? ⟨n0, 1, none⟩ = some (.int .i64 x.2.1) ∧ u.cell? ⟨n0, 2, none⟩ = some (.int .i64 x.2.2)) (by kernel_rfl) ?_
      have hS7 : (fun u => u.cell? ⟨n0, 0, none⟩ = some (.int .i64 x.1) ∧ u.cell? ⟨n0, 1, none⟩ = some (.int .i64 x.2.1) ∧ u.cell? ⟨n0, 2, none⟩ = some (.int .i64 x.2.2)) ({ heap := W3.heap, tape := W3.tape, drawn := W3.drawn + 1, os := W3.os, output := W3.output } : World) := ⟨blkc bx3 0, blkc bx3 1, blkc bx3 2⟩
      have hB7 : Below W3.heap.size W3 ({ heap := W3.heap, tape := W3.tape, drawn := W3.drawn + 1, os := W3.os, output := W3.output } : World) := (Below.refl _ _).drew
      generalize ({ heap := W3.heap, tape := W3.tape, drawn := W3.drawn + 1, os := W3.os, output := W3.output } : World) = We at *
      have hb4 : We.heap[sb]? = some (.cells #[.map (some mb), .slice ad L.length cp] 111) := blko HB3.out hB7
      try simp only [Act.put, List.getElem_toArray, List.getElem_cons_succ, List.getElem_cons_zero, List.setIfInBounds_toArray, List.set_cons_zero, List.set_cons_succ]
      refine tkX 0 (hS := hS7) (h := ?_)
      try simp only [Act.put, List.getElem_toArray, List.getElem_cons_succ, List.getElem_cons_zero, List.setIfInBounds_toArray, List.set_cons_zero, List.set_cons_succ]
      refine tkX 1 (hS := hS7) (h := ?_)
      try simp only [Act.put, List.getElem_toArray, List.getElem_cons_succ, List.getElem_cons_zero, List.setIfInBounds_toArray, List.set_cons_zero, List.set_cons_succ]
      refine tkX 2 (hS := hS7) (h := ?_)
      try simp only [Act.put, List.getElem_toArray, List.getElem_cons_succ, List.getElem_cons_zero, List.setIfInBounds_toArray, List.set_cons_zero, List.set_cons_succ]
      refine tkX 3 (hS := hS7) (h := ?_)
      try simp only [Act.put, List.getElem_toArray, List.getElem_cons_succ, List.getElem_cons_zero, List.setIfInBounds_toArray, List.set_cons_zero, List.set_cons_succ]
      refine tkX 5 (v := .agg #[.int .i64 x.1, .int .i64 x.2.1, .int .i64 x.2.2]) (hS := hS7) (h := ?_)
      try simp only [Act.put, List.getElem_toArray, List.getElem_cons_succ, List.getElem_cons_zero, List.setIfInBounds_toArray, List.set_cons_zero, List.set_cons_succ]
      have hS8 : (fun u => u.cell? ⟨n0, 0, none⟩ = some (.int .i64 x.1) ∧ u.cell? ⟨n0, 1, none⟩ = some (.int .i64 x.2.1) ∧ u.cell? ⟨n0, 2, none⟩ = some (.int .i64 x.2.2)) (We.alloc (.cells #[.int .i64 x.1, .int .i64 x.2.1, .int .i64 x.2.2] 133)) := ⟨(blkc ((Below.heap_alloc We (.cells #[.int .i64 x.1, .int .i64 x.2.1, .int .i64 x.2.2] 133) n0 (Nat.lt_of_lt_of_le (Array.getElem?_eq_some_iff.1 HX3.out).1 hB7.size)).trans (blko HX3.out hB7)) 0), (blkc ((Below.heap_alloc We (.cells #[.int .i64 x.1, .int .i64 x.2.1, .int .i64 x.2.2] 133) n0 (Nat.lt_of_lt_of_le (Array.getElem?_eq_some_iff.1 HX3.out).1 hB7.size)).trans (blko HX3.out hB7)) 1), (blkc ((Below.heap_alloc We (.cells #[.int .i64 x.1, .int .i64 x.2.1, .int .i64 x.2.2] 133) n0 (Nat.lt_of_lt_of_le (Array.getElem?_eq_some_iff.1 HX3.out).1 hB7.size)).trans (blko HX3.out hB7)) 2)⟩
      have hbA : (We.alloc (.cells #[.int .i64 x.1, .int .i64 x.2.1, .int .i64 x.2.2] 133)).heap[sb]? = some (.cells #[.map (some mb), .slice ad L.length cp] 111) := (Below.heap_alloc _ _ _ (Array.getElem?_eq_some_iff.1 hb4).1).trans hb4
      refine wpAnyH_two 4 6 (by kernel_rfl) ?ga1 ?gb1
      case' ga1 =>
        refine wpOp_val _ _ rfl (by kernel_rfl) (loadST _ _ _ _ rfl sb 1 L.length cp ad (by kernel_rfl) (blkc hb4 1)) ?_
        refine ⟨hS7, ?_⟩
        try simp only [Act.put, List.getElem_toArray, List.getElem_cons_succ, List.getElem_cons_zero, List.setIfInBounds_toArray, List.set_cons_zero, List.set_cons_succ]
        refine wpAnyH_one 6 (by kernel_rfl) ?_
        refine wpOp_val _ _ rfl (by kernel_rfl) (builtT _ _ _ _ rfl x (by kernel_rfl)) ?_
        refine ⟨hS8, ?_⟩
        try simp only [Act.put, List.getElem_toArray, List.getElem_cons_succ, List.getElem_cons_zero, List.setIfInBounds_toArray, List.set_cons_zero, List.set_cons_succ]
      case' gb1 =>
        refine wpOp_val _ _ rfl (by kernel_rfl) (builtT _ _ _ _ rfl x (by kernel_rfl)) ?_
        refine ⟨hS8, ?_⟩
        try simp only [Act.put, List.getElem_toArray, List.getElem_cons_succ, List.getElem_cons_zero, List.setIfInBounds_toArray, List.set_cons_zero, List.set_cons_succ]
        refine wpAnyH_one 4 (by kernel_rfl) ?_
        refine wpOp_val _ _ rfl (by kernel_rfl) (loadST _ _ _ _ rfl sb 1 L.length cp ad (by kernel_rfl) (blkc hbA 1)) ?_
        refine ⟨hS8, ?_⟩
        try simp only [Act.put, List.getElem_toArray, List.getElem_cons_succ, List.getElem_cons_zero, List.setIfInBounds_toArray, List.set_cons_zero, List.set_cons_succ]
      all_goals
        refine wpAnyH_one 7 (by kernel_rfl) ?_
        refine wpOp_pushkT rfl (by kernel_rfl) rfl _ _ rfl i0 hi0 hz0 hz1 hz2 base _ L.length (rowK keyT L) (by kernel_rfl) (own_congr HO3.out (fun b hk => hB7.block b (Array.getElem?_eq_some_iff.1 (own_blk HO3.out hk).2.choose_spec).1)) x We.heap.size rfl (by kernel_rfl) hb (Nat.le_trans hcap3 hB7.size) ?_
        intro g c W4 ho4 hbt4 hat4
        have HP := SetAt.pushed (K := keyT) (by decide) hb4 (HM3.out.keep (hB7.block _ HM3.out.lt)) HMBb.out (own_congr HO3.out (fun b hk => hB7.block b (Array.getElem?_eq_some_iff.1 (own_blk HO3.out hk).2.choose_spec).1)) hbt4 ho4 HND.out HOKS.out
        have hb5 : W4.heap[sb]? = some (.cells #[.map (some mb), .slice ad L.length cp] 111) := HP.2
        have bx4 : W4.heap[n0]? = some (.cells #[.int .i64 x.1, .int .i64 x.2.1, .int .i64 x.2.2] 133) := (hbt4.block n0 (Nat.lt_of_lt_of_le (Array.getElem?_eq_some_iff.1 HX3.out).1 hB7.size) (fun e => HNB.out n0 (Or.inr (Or.inr e)) rfl)).trans (blko HX3.out hB7)
        refine ⟨⟨blkc bx4 0, blkc bx4 1, blkc bx4 2⟩, ?_⟩
        try simp only [Act.put, List.getElem_toArray, List.getElem_cons_succ, List.getElem_cons_zero, List.setIfInBounds_toArray, List.set_cons_zero, List.set_cons_succ]
        refine tkX 8 (hS := ⟨blkc bx4 0, blkc bx4 1, blkc bx4 2⟩) (h := ?_)
        try simp only [Act.put, List.getElem_toArray, List.getElem_cons_succ, List.getElem_cons_zero, List.setIfInBounds_toArray, List.set_cons_zero, List.set_cons_succ]
        refine tkX 9 (hS := ⟨blkc bx4 0, blkc bx4 1, blkc bx4 2⟩) (h := ?_)
        try simp only [Act.put, List.getElem_toArray, List.getElem_cons_succ, List.getElem_cons_zero, List.setIfInBounds_toArray, List.set_cons_zero, List.set_cons_succ]
        refine wpAnyH_one 10 (by kernel_rfl) ?_
        refine wpOp_skip _ rfl (by kernel_rfl) (storedT _ _ _ _ _ rfl sb 1 g (L.length + 1) c _ (by kernel_rfl) (by kernel_rfl) (blkc hb5 1) (frozen_of_row _ sb 1 _ _ hb5)) ?_
        have bx6 : (W4.setCell ⟨sb, 1, none⟩ (.slice (some ⟨g, 0, none⟩) (L.length + 1) c)).heap[n0]? = some (.cells #[.int .i64 x.1, .int .i64 x.2.1, .int .i64 x.2.2] 133) := (heap_set_other W4 sb 1 _ n0 (fun e => HNB.out sb (Or.inl rfl) e.symm)).trans bx4
        refine ⟨⟨blkc bx6 0, blkc bx6 1, blkc bx6 2⟩, ?_⟩
        try simp only [Act.put, List.getElem_toArray, List.getElem_cons_succ, List.getElem_cons_zero, List.setIfInBounds_toArray, List.set_cons_zero, List.set_cons_succ]
        refine wpAnyH_done (by kernel_rfl) ?_ _
        have HP1 := hidd HP.1
        have HBt4 : Hid (But (SetB sb (.map none) (.slice ad L.length cp)) W (W4.setCell ⟨sb, 1, none⟩ (.slice (some ⟨g, 0, none⟩) (L.length + 1) c))) := (((HBt3.out.trans (But.of_below (X := fun _ => False) hB7) (Z := SetB sb (.map none) (.slice ad L.length cp)) (fun _ _ h => h) (fun _ _ h => h.elim)).trans hbt4 (Z := SetB sb (.map none) (.slice ad L.length cp)) (fun _ _ h => h) (fun _ _ h => Or.inr (Or.inr h))).set sb 1 _ (Or.inl rfl))
        have HAT : Hid ((∀ b, (Value.slice (some ⟨g, 0, none⟩) (L.length + 1) c).ownBlock = some b → (Value.slice ad L.length cp).ownBlock = some b ∨ W.heap.size ≤ b) ∧ ∀ b, Value.map (some mb) = .map (some b) → Value.map none = Value.map (some b) ∨ W.heap.size ≤ b) := by
          refine ⟨fun b e => (hat4 b e).imp id (fun h => Nat.le_trans (Nat.le_trans HBt3.out.size hB7.size) h), fun b e => ?_⟩
          have : mb = b := by simpa using e
          subst this
          first | exact HMB2.out | exact Or.inl rfl
        clear ho4 hbt4 hat4 HP hb5 hb4 hbA bx4 bx6 hS7 hS8 f1
        go_wp2_with fail
        go_ret
        exact ⟨by rw [HI.out]; rfl, _, _, by rw [HM.out]; exact HP1.out, HBt4.out, HAT.out.1, HAT.out.2⟩
    · have h2 : (Instr.lookup 108 (.map (some mb)) (.agg #[.int .i64 x.1, .int .i64 x.2.1, .int .i64 x.2.2]) true).run Tryd.prog W0.drew = .ok (.tuple #[.int .i64 0, .bool false]) W0.drew := by
        rcases (hmk.keep (w' := W0.drew) rfl).look okT hoks x hok with ⟨_, h4⟩ | ⟨j, h4, _⟩
        · exact h4
        · exact absurd (List.mem_of_getElem? h4) hx
      clear h0 hx hnd hoks
      refine wp_region_held (S := fun u => u.cell? ⟨sb, 0, none⟩ = some (.map (some mb)) ∧ u.cell? ⟨n0, 0, none⟩ = some (.int .i64 x.1) ∧ u.cell? ⟨n0, 1, none⟩ = some (.int .i64 x.2.1) ∧ u.cell? ⟨n0, 2, none⟩ = some (.int .i64 x.2.2) ∧ (Instr.lookup 108 (.map (some mb)) (.agg #[.int .i64 x.1, .int .i64 x.2.1, .int .i64 x.2.2]) true).run Tryd.prog u = .ok (.tuple #[.int .i64 0, .bool false]) u) (by kernel_rfl) ?_
      have hS : (fun u => u.cell? ⟨sb, 0, none⟩ = some (.map (some mb)) ∧ u.cell? ⟨n0, 0, none⟩ = some (.int .i64 x.1) ∧ u.cell? ⟨n0, 1, none⟩ = some (.int .i64 x.2.1) ∧ u.cell? ⟨n0, 2, none⟩ = some (.int .i64 x.2.2) ∧ (Instr.lookup 108 (.map (some mb)) (.agg #[.int .i64 x.1, .int .i64 x.2.1, .int .i64 x.2.2]) true).run Tryd.prog u = .ok (.tuple #[.int .i64 0, .bool false]) u) ({ heap := W0.heap, tape := W0.tape, drawn := W0.drawn + 1, os := W0.os, output := W0.output } : World) := ⟨c0, b0, b1, b2, h2⟩
      have hBd : Below W0.heap.size W0 ({ heap := W0.heap, tape := W0.tape, drawn := W0.drawn + 1, os := W0.os, output := W0.output } : World) := (Below.refl _ _).drew
      generalize ({ heap := W0.heap, tape := W0.tape, drawn := W0.drawn + 1, os := W0.os, output := W0.output } : World) = W1 at *
      try simp only [Act.put, List.getElem_toArray, List.getElem_cons_succ, List.getElem_cons_zero, List.setIfInBounds_toArray, List.set_cons_zero, List.set_cons_succ]
      refine tkX 0 (hS := hS) (h := ?_)
      try simp only [Act.put, List.getElem_toArray, List.getElem_cons_succ, List.getElem_cons_zero, List.setIfInBounds_toArray, List.set_cons_zero, List.set_cons_succ]
      refine tkX 1 (hS := hS) (h := ?_)
      try simp only [Act.put, List.getElem_toArray, List.getElem_cons_succ, List.getElem_cons_zero, List.setIfInBounds_toArray, List.set_cons_zero, List.set_cons_succ]
      refine tkX 2 (hS := hS) (h := ?_)
      try simp only [Act.put, List.getElem_toArray, List.getElem_cons_succ, List.getElem_cons_zero, List.setIfInBounds_toArray, List.set_cons_zero, List.set_cons_succ]
      refine tkX 3 (hS := hS) (h := ?_)
      try simp only [Act.put, List.getElem_toArray, List.getElem_cons_succ, List.getElem_cons_zero, List.setIfInBounds_toArray, List.set_cons_zero, List.set_cons_succ]
      refine tkX 4 (v := .agg #[.int .i64 x.1, .int .i64 x.2.1, .int .i64 x.2.2]) (hS := hS) (h := ?_)
      try simp only [Act.put, List.getElem_toArray, List.getElem_cons_succ, List.getElem_cons_zero, List.setIfInBounds_toArray, List.set_cons_zero, List.set_cons_succ]
      refine tkX 5 (v := .tuple #[.int .i64 0, .bool false]) (hS := hS) (h := ?_)
      try simp only [Act.put, List.getElem_toArray, List.getElem_cons_succ, List.getElem_cons_zero, List.setIfInBounds_toArray, List.set_cons_zero, List.set_cons_succ]
      refine tkX 6 (hS := hS) (h := ?_)
      try simp only [Act.put, List.getElem_toArray, List.getElem_cons_succ, List.getElem_cons_zero, List.setIfInBounds_toArray, List.set_cons_zero, List.set_cons_succ]
      refine tkX 7 (hS := hS) (h := ?_)
      try simp only [Act.put, List.getElem_toArray, List.getElem_cons_succ, List.getElem_cons_zero, List.setIfInBounds_toArray, List.set_cons_zero, List.set_cons_succ]
      refine tkX 8 (hS := hS) (h := ?_)
      try simp only [Act.put, List.getElem_toArray, List.getElem_cons_succ, List.getElem_cons_zero, List.setIfInBounds_toArray, List.set_cons_zero, List.set_cons_succ]
      refine tkX 9 (hS := hS) (h := ?_)
      try simp only [Act.put, List.getElem_toArray, List.getElem_cons_succ, List.getElem_cons_zero, List.setIfInBounds_toArray, List.set_cons_zero, List.set_cons_succ]
      refine tkX 10 (hS := hS) (h := ?_)
      try simp only [Act.put, List.getElem_toArray, List.getElem_cons_succ, List.getElem_cons_zero, List.setIfInBounds_toArray, List.set_cons_zero, List.set_cons_succ]
      refine wpAnyH_done (by kernel_rfl) ?_ _
      have H1 := hidd (H0.out.below hBd)
      have hb2 := H1.out.box
      have bx2 := blko HBX.out hBd
      have HM2 := hidd (hmk.keep (hBd.block _ hmk.lt))
      have HO2 := hidd H1.out.row
      have HNE : Hid (mb ≠ sb) := by
        show _ ≠ _
        rintro rfl
        obtain ⟨es, c, h3, _⟩ := HM2.out
        rw [h3] at hb2
        cases hb2
      have HNM : Hid (mb ≠ n0) := HNB.out mb (Or.inr (Or.inl rfl))
      have HBt2 : Hid (But (SetB sb (.map (some mb)) (.slice ad L.length cp)) W W1) := But.of_below (by rw [Hn0.out]; exact HW.out.trans (hBd.mono (by rw [HZ.out]; omega)))
      have HMB2 : Hid (Value.map (some mb) = .map (some mb) ∨ W.heap.size ≤ mb) := Or.inl rfl
      have HMB : Hid (SetB sb (.map (some mb)) (.slice ad L.length cp) mb ∨ W.heap.size ≤ mb) := Or.inl (Or.inr (Or.inl rfl))
      have HMBb := hidd hmb
      have hcap2 : base ≤ W1.heap.size := Nat.le_trans hbase (Nat.le_trans (by rw [HZ.out]; omega) hBd.size)
      have cB : W1.cell? ⟨sb, 0, none⟩ = some (.map (some mb)) := blkc hb2 0
      have cC : W1.cell? ⟨sb, 1, none⟩ = some (.slice ad L.length cp) := blkc hb2 1
      clear hS h2 c0 b0 b1 b2 hBd hmk hmb
      go_wp2_with fail
      clear cB cC
      generalize W1 = W2 at *
      have d0 : W2.cell? ⟨sb, 0, none⟩ = some (.map (some mb)) := blkc hb2 0
      have e0 : W2.cell? ⟨n0, 0, none⟩ = some (.int .i64 x.1) := blkc bx2 0
      have e1 : W2.cell? ⟨n0, 1, none⟩ = some (.int .i64 x.2.1) := blkc bx2 1
      have e2 : W2.cell? ⟨n0, 2, none⟩ = some (.int .i64 x.2.2) := blkc bx2 2
      refine wp_region_held (S := fun u => u.cell? ⟨sb, 0, none⟩ = some (.map (some mb)) ∧ u.cell? ⟨n0, 0, none⟩ = some (.int .i64 x.1) ∧ u.cell? ⟨n0, 1, none⟩ = some (.int .i64 x.2.1) ∧ u.cell? ⟨n0, 2, none⟩ = some (.int .i64 x.2.2)) (by kernel_rfl) ?_
      have hS6 : (fun u => u.cell? ⟨sb, 0, none⟩ = some (.map (some mb)) ∧ u.cell? ⟨n0, 0, none⟩ = some (.int .i64 x.1) ∧ u.cell? ⟨n0, 1, none⟩ = some (.int .i64 x.2.1) ∧ u.cell? ⟨n0, 2, none⟩ = some (.int .i64 x.2.2)) ({ heap := W2.heap, tape := W2.tape, drawn := W2.drawn + 1, os := W2.os, output := W2.output } : World) := ⟨d0, e0, e1, e2⟩
      have hB6 : Below W2.heap.size W2 ({ heap := W2.heap, tape := W2.tape, drawn := W2.drawn + 1, os := W2.os, output := W2.output } : World) := (Below.refl _ _).drew
      generalize ({ heap := W2.heap, tape := W2.tape, drawn := W2.drawn + 1, os := W2.os, output := W2.output } : World) = Wd at *
      try simp only [Act.put, List.getElem_toArray, List.getElem_cons_succ, List.getElem_cons_zero, List.setIfInBounds_toArray, List.set_cons_zero, List.set_cons_succ]
      refine tkX 0 (hS := hS6) (h := ?_)
      try simp only [Act.put, List.getElem_toArray, List.getElem_cons_succ, List.getElem_cons_zero, List.setIfInBounds_toArray, List.set_cons_zero, List.set_cons_succ]
      refine tkX 1 (hS := hS6) (h := ?_)
      try simp only [Act.put, List.getElem_toArray, List.getElem_cons_succ, List.getElem_cons_zero, List.setIfInBounds_toArray, List.set_cons_zero, List.set_cons_succ]
      refine tkX 2 (hS := hS6) (h := ?_)
      try simp only [Act.put, List.getElem_toArray, List.getElem_cons_succ, List.getElem_cons_zero, List.setIfInBounds_toArray, List.set_cons_zero, List.set_cons_succ]
      refine tkX 3 (hS := hS6) (h := ?_)
      try simp only [Act.put, List.getElem_toArray, List.getElem_cons_succ, List.getElem_cons_zero, List.setIfInBounds_toArray, List.set_cons_zero, List.set_cons_succ]
      refine tkX 4 (v := .agg #[.int .i64 x.1, .int .i64 x.2.1, .int .i64 x.2.2]) (hS := hS6) (h := ?_)
      try simp only [Act.put, List.getElem_toArray, List.getElem_cons_succ, List.getElem_cons_zero, List.setIfInBounds_toArray, List.set_cons_zero, List.set_cons_succ]
      refine tkX 5 (hS := hS6) (h := ?_)
      obtain ⟨W3, hput, hm3, hg3, hz3⟩ := (HM2.out.keep (hB6.block _ HM2.out.lt)).put okT HOK.out x hok HX.out
      try simp only [Act.put, List.getElem_toArray, List.getElem_cons_succ, List.getElem_cons_zero, List.setIfInBounds_toArray, List.set_cons_zero, List.set_cons_succ]
      refine wpAnyH_one 6 (by kernel_rfl) ?_
      refine wpOp_skip W3 rfl (by kernel_rfl) (updT _ _ _ _ _ _ _ rfl _ _ _ (by kernel_rfl) (by kernel_rfl) (by kernel_rfl) hput) ?_
      have hb3 : W3.heap[sb]? = some (.cells #[.map (some mb), .slice ad L.length cp] 111) := (hg3.block sb (Nat.lt_of_lt_of_le (Array.getElem?_eq_some_iff.1 hb2).1 hB6.size) (fun e => HNE.out (by simpa using e.symm))).trans (blko hb2 hB6)
      have bx3 : W3.heap[n0]? = some (.cells #[.int .i64 x.1, .int .i64 x.2.1, .int .i64 x.2.2] 133) := (hg3.block n0 (Nat.lt_of_lt_of_le (Array.getElem?_eq_some_iff.1 bx2).1 hB6.size) (fun e => HNM.out (by simpa using e.symm))).trans (blko bx2 hB6)
      refine ⟨⟨blkc hb3 0, blkc bx3 0, blkc bx3 1, blkc bx3 2⟩, ?_⟩
      try simp only [Act.put, List.getElem_toArray, List.getElem_cons_succ, List.getElem_cons_zero, List.setIfInBounds_toArray, List.set_cons_zero, List.set_cons_succ]
      refine wpAnyH_done (by kernel_rfl) ?_ _
      have HO3 : Hid (W3.ownsRow base 133 3 (.slice ad L.length cp) L.length (rowK keyT L)) := own_congr HO2.out (fun b hk => (hg3.block b (Nat.lt_of_lt_of_le (Array.getElem?_eq_some_iff.1 (own_blk HO2.out hk).2.choose_spec).1 hB6.size) (fun e => by
        obtain ⟨_, cur, h2⟩ := own_blk HO2.out hk
        obtain ⟨es, c, h3, _⟩ := HM2.out
        have e' : b = mb := by simpa using e
        rw [e', h3] at h2
        cases h2)).trans (hB6.block b (Array.getElem?_eq_some_iff.1 (own_blk HO2.out hk).2.choose_spec).1))
      have HBt3 : Hid (But (SetB sb (.map (some mb)) (.slice ad L.length cp)) W W3) := (HBt2.out.trans (But.of_below (X := fun _ => False) hB6) (fun _ _ h => h) (fun _ _ h => h.elim)).grown hg3 (fun k hk => by
        have : mb = k := by simpa using hk
        subst this; exact HMB.out)
      have hcap3 : base ≤ W3.heap.size := by rw [hz3]; exact Nat.le_trans hcap2 hB6.size
      have HM3 := hidd hm3
      have HB3 := hidd hb3
      have HX3 := hidd bx3
      have f1 : W3.cell? ⟨sb, 1, none⟩ = some (.slice ad L.length cp) := blkc hb3 1
      clear hput hm3 hg3 hz3 hS6 hB6 d0
      go_wp2_with fail
      refine wp_region_held (S := fun u => u.cell? ⟨n0, 0, none⟩ = some (.int .i64 x.1) ∧ u.cell? ⟨n0, 1, none⟩ = some (.int .i64 x.2.1) ∧ u.cell? ⟨n0, 2, none⟩ = some (.int .i64 x.2.2)) (by kernel_rfl) ?_
      have hS7 : (fun u => u.cell? ⟨n0, 0, none⟩ = some (.int .i64 x.1) ∧ u.cell? ⟨n0, 1, none⟩ = some (.int .i64 x.2.1) ∧ u.cell? ⟨n0, 2, none⟩ = some (.int .i64 x.2.2)) ({ heap := W3.heap, tape := W3.tape, drawn := W3.drawn + 1, os := W3.os, output := W3.output } : World) := ⟨blkc bx3 0, blkc bx3 1, blkc bx3 2⟩
      have hB7 : Below W3.heap.size W3 ({ heap := W3.heap, tape := W3.tape, drawn := W3.drawn + 1, os := W3.os, output := W3.output } : World) := (Below.refl _ _).drew
      generalize ({ heap := W3.heap, tape := W3.tape, drawn := W3.drawn + 1, os := W3.os, output := W3.output } : World) = We at *
      have hb4 : We.heap[sb]? = some (.cells #[.map (some mb), .slice ad L.length cp] 111) := blko HB3.out hB7
      try simp only [Act.put, List.getElem_toArray, List.getElem_cons_succ, List.getElem_cons_zero, List.setIfInBounds_toArray, List.set_cons_zero, List.set_cons_succ]
      refine tkX 0 (hS := hS7) (h := ?_)
      try simp only [Act.put, List.getElem_toArray, List.getElem_cons_succ, List.getElem_cons_zero, List.setIfInBounds_toArray, List.set_cons_zero, List.set_cons_succ]
      refine tkX 1 (hS := hS7) (h := ?_)
      try simp only [Act.put, List.getElem_toArray, List.getElem_cons_succ, List.getElem_cons_zero, List.setIfInBounds_toArray, List.set_cons_zero, List.set_cons_succ]
      refine tkX 2 (hS := hS7) (h := ?_)
      try simp only [Act.put, List.getElem_toArray, List.getElem_cons_succ, List.getElem_cons_zero, List.setIfInBounds_toArray, List.set_cons_zero, List.set_cons_succ]
      refine tkX 3 (hS := hS7) (h := ?_)
      try simp only [Act.put, List.getElem_toArray, List.getElem_cons_succ, List.getElem_cons_zero, List.setIfInBounds_toArray, List.set_cons_zero, List.set_cons_succ]
      refine tkX 5 (v := .agg #[.int .i64 x.1, .int .i64 x.2.1, .int .i64 x.2.2]) (hS := hS7) (h := ?_)
      try simp only [Act.put, List.getElem_toArray, List.getElem_cons_succ, List.getElem_cons_zero, List.setIfInBounds_toArray, List.set_cons_zero, List.set_cons_succ]
      have hS8 : (fun u => u.cell? ⟨n0, 0, none⟩ = some (.int .i64 x.1) ∧ u.cell? ⟨n0, 1, none⟩ = some (.int .i64 x.2.1) ∧ u.cell? ⟨n0, 2, none⟩ = some (.int .i64 x.2.2)) (We.alloc (.cells #[.int .i64 x.1, .int .i64 x.2.1, .int .i64 x.2.2] 133)) := ⟨(blkc ((Below.heap_alloc We (.cells #[.int .i64 x.1, .int .i64 x.2.1, .int .i64 x.2.2] 133) n0 (Nat.lt_of_lt_of_le (Array.getElem?_eq_some_iff.1 HX3.out).1 hB7.size)).trans (blko HX3.out hB7)) 0), (blkc ((Below.heap_alloc We (.cells #[.int .i64 x.1, .int .i64 x.2.1, .int .i64 x.2.2] 133) n0 (Nat.lt_of_lt_of_le (Array.getElem?_eq_some_iff.1 HX3.out).1 hB7.size)).trans (blko HX3.out hB7)) 1), (blkc ((Below.heap_alloc We (.cells #[.int .i64 x.1, .int .i64 x.2.1, .int .i64 x.2.2] 133) n0 (Nat.lt_of_lt_of_le (Array.getElem?_eq_some_iff.1 HX3.out).1 hB7.size)).trans (blko HX3.out hB7)) 2)⟩
      have hbA : (We.alloc (.cells #[.int .i64 x.1, .int .i64 x.2.1, .int .i64 x.2.2] 133)).heap[sb]? = some (.cells #[.map (some mb), .slice ad L.length cp] 111) := (Below.heap_alloc _ _ _ (Array.getElem?_eq_some_iff.1 hb4).1).trans hb4
      refine wpAnyH_two 4 6 (by kernel_rfl) ?ga2 ?gb2
      case' ga2 =>
        refine wpOp_val _ _ rfl (by kernel_rfl) (loadST _ _ _ _ rfl sb 1 L.length cp ad (by kernel_rfl) (blkc hb4 1)) ?_
        refine ⟨hS7, ?_⟩
        try simp only [Act.put, List.getElem_toArray, List.getElem_cons_succ, List.getElem_cons_zero, List.setIfInBounds_toArray, List.set_cons_zero, List.set_cons_succ]
        refine wpAnyH_one 6 (by kernel_rfl) ?_
        refine wpOp_val _ _ rfl (by kernel_rfl) (builtT _ _ _ _ rfl x (by kernel_rfl)) ?_
        refine ⟨hS8, ?_⟩
        try simp only [Act.put, List.getElem_toArray, List.getElem_cons_succ, List.getElem_cons_zero, List.setIfInBounds_toArray, List.set_cons_zero, List.set_cons_succ]
      case' gb2 =>
        refine wpOp_val _ _ rfl (by kernel_rfl) (builtT _ _ _ _ rfl x (by kernel_rfl)) ?_
        refine ⟨hS8, ?_⟩
        try simp only [Act.put, List.getElem_toArray, List.getElem_cons_succ, List.getElem_cons_zero, List.setIfInBounds_toArray, List.set_cons_zero, List.set_cons_succ]
        refine wpAnyH_one 4 (by kernel_rfl) ?_
        refine wpOp_val _ _ rfl (by kernel_rfl) (loadST _ _ _ _ rfl sb 1 L.length cp ad (by kernel_rfl) (blkc hbA 1)) ?_
        refine ⟨hS8, ?_⟩
        try simp only [Act.put, List.getElem_toArray, List.getElem_cons_succ, List.getElem_cons_zero, List.setIfInBounds_toArray, List.set_cons_zero, List.set_cons_succ]
      all_goals
        refine wpAnyH_one 7 (by kernel_rfl) ?_
        refine wpOp_pushkT rfl (by kernel_rfl) rfl _ _ rfl i0 hi0 hz0 hz1 hz2 base _ L.length (rowK keyT L) (by kernel_rfl) (own_congr HO3.out (fun b hk => hB7.block b (Array.getElem?_eq_some_iff.1 (own_blk HO3.out hk).2.choose_spec).1)) x We.heap.size rfl (by kernel_rfl) hb (Nat.le_trans hcap3 hB7.size) ?_
        intro g c W4 ho4 hbt4 hat4
        have HP := SetAt.pushed (K := keyT) (by decide) hb4 (HM3.out.keep (hB7.block _ HM3.out.lt)) HMBb.out (own_congr HO3.out (fun b hk => hB7.block b (Array.getElem?_eq_some_iff.1 (own_blk HO3.out hk).2.choose_spec).1)) hbt4 ho4 HND.out HOKS.out
        have hb5 : W4.heap[sb]? = some (.cells #[.map (some mb), .slice ad L.length cp] 111) := HP.2
        have bx4 : W4.heap[n0]? = some (.cells #[.int .i64 x.1, .int .i64 x.2.1, .int .i64 x.2.2] 133) := (hbt4.block n0 (Nat.lt_of_lt_of_le (Array.getElem?_eq_some_iff.1 HX3.out).1 hB7.size) (fun e => HNB.out n0 (Or.inr (Or.inr e)) rfl)).trans (blko HX3.out hB7)
        refine ⟨⟨blkc bx4 0, blkc bx4 1, blkc bx4 2⟩, ?_⟩
        try simp only [Act.put, List.getElem_toArray, List.getElem_cons_succ, List.getElem_cons_zero, List.setIfInBounds_toArray, List.set_cons_zero, List.set_cons_succ]
        refine tkX 8 (hS := ⟨blkc bx4 0, blkc bx4 1, blkc bx4 2⟩) (h := ?_)
        try simp only [Act.put, List.getElem_toArray, List.getElem_cons_succ, List.getElem_cons_zero, List.setIfInBounds_toArray, List.set_cons_zero, List.set_cons_succ]
        refine tkX 9 (hS := ⟨blkc bx4 0, blkc bx4 1, blkc bx4 2⟩) (h := ?_)
        try simp only [Act.put, List.getElem_toArray, List.getElem_cons_succ, List.getElem_cons_zero, List.setIfInBounds_toArray, List.set_cons_zero, List.set_cons_succ]
        refine wpAnyH_one 10 (by kernel_rfl) ?_
        refine wpOp_skip _ rfl (by kernel_rfl) (storedT _ _ _ _ _ rfl sb 1 g (L.length + 1) c _ (by kernel_rfl) (by kernel_rfl) (blkc hb5 1) (frozen_of_row _ sb 1 _ _ hb5)) ?_
        have bx6 : (W4.setCell ⟨sb, 1, none⟩ (.slice (some ⟨g, 0, none⟩) (L.length + 1) c)).heap[n0]? = some (.cells #[.int .i64 x.1, .int .i64 x.2.1, .int .i64 x.2.2] 133) := (heap_set_other W4 sb 1 _ n0 (fun e => HNB.out sb (Or.inl rfl) e.symm)).trans bx4
        refine ⟨⟨blkc bx6 0, blkc bx6 1, blkc bx6 2⟩, ?_⟩
        try simp only [Act.put, List.getElem_toArray, List.getElem_cons_succ, List.getElem_cons_zero, List.setIfInBounds_toArray, List.set_cons_zero, List.set_cons_succ]
        refine wpAnyH_done (by kernel_rfl) ?_ _
        have HP1 := hidd HP.1
        have HBt4 : Hid (But (SetB sb (.map (some mb)) (.slice ad L.length cp)) W (W4.setCell ⟨sb, 1, none⟩ (.slice (some ⟨g, 0, none⟩) (L.length + 1) c))) := (((HBt3.out.trans (But.of_below (X := fun _ => False) hB7) (Z := SetB sb (.map (some mb)) (.slice ad L.length cp)) (fun _ _ h => h) (fun _ _ h => h.elim)).trans hbt4 (Z := SetB sb (.map (some mb)) (.slice ad L.length cp)) (fun _ _ h => h) (fun _ _ h => Or.inr (Or.inr h))).set sb 1 _ (Or.inl rfl))
        have HAT : Hid ((∀ b, (Value.slice (some ⟨g, 0, none⟩) (L.length + 1) c).ownBlock = some b → (Value.slice ad L.length cp).ownBlock = some b ∨ W.heap.size ≤ b) ∧ ∀ b, Value.map (some mb) = .map (some b) → Value.map (some mb) = Value.map (some b) ∨ W.heap.size ≤ b) := by
          refine ⟨fun b e => (hat4 b e).imp id (fun h => Nat.le_trans (Nat.le_trans HBt3.out.size hB7.size) h), fun b e => ?_⟩
          have : mb = b := by simpa using e
          subst this
          first | exact HMB2.out | exact Or.inl rfl
        clear ho4 hbt4 hat4 HP hb5 hb4 hbA bx4 bx6 hS7 hS8 f1
        go_wp2_with fail
        go_ret
        exact ⟨by rw [HI.out]; rfl, _, _, by rw [HM.out]; exact HP1.out, HBt4.out, HAT.out.1, HAT.out.2⟩
end Go.Proofs.YtmnfioghhdgciaaDoor
