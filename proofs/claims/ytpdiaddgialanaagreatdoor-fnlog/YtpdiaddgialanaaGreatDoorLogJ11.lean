import Derived.Test.YtpdiaddgialanaaGreatDoorLogJ10
namespace Go.Proofs.YtpdiaddgialanaaGreatDoor
open Go Go.RowKit
set_option linter.unusedVariables false
set_option linter.unusedSimpArgs false
set_option maxRecDepth 100000

/-! Operations of the bending's regions. -/
theorem wpOp_pushSL {W : World} {ops : Array Oper} {i : Nat} {o : Oper} {a : Act} {K : Act → World → Prop} {Q : Exit → Act → World → Prop} (hio : ops[i]? = some o) (hw : Region.wanted o (yielded ops a.tmps) = true) (s x : Operand)
    (ho : o.op = .call { callee := .builtin .append, args := #[s, x], argTypes := #[37, 37] })
    (base : Nat) (v : Value) (xs : List (List UInt8)) (hs : a.eval s = v) (hown : W.ownsRow base 9 1 v xs.length (sC xs)) (bx : Nat) (y : List UInt8) (hx : a.eval x = .slice (some ⟨bx, 0, none⟩) 1 1) (hb : W.heap[bx]? = some (.cells #[.string ⟨y.toArray⟩] 9)) (hl : xs.length ≤ 1048576) (hbase : base ≤ W.heap.size)
    (h : ∀ g c w' N, Hid ((xs ++ [y]).length = N) → w'.ownsRow base 9 1 (.slice (some ⟨g, 0, none⟩) N c) N (sC (xs ++ [y])) → W.grownBy w' v.ownBlock → ((Value.slice (some ⟨g, 0, none⟩) N c).ownBlock = v.ownBlock ∨ ∀ z, (Value.slice (some ⟨g, 0, none⟩) N c).ownBlock = some z → W.heap.size ≤ z) → K (a.put o.dst (.slice (some ⟨g, 0, none⟩) N c)) w') :
    wpOp Tryz.prog ops Q i K a W := by
  obtain ⟨i0, hi0, hz0, hz1, hz2⟩ := info_parts Tryz.infoStrL
  refine wpOp_wp hio hw ?_
  obtain ⟨v', w', hr, h2, h3, h4, h5⟩ := run_append_own_at (P := Tryz.prog) W base 37 o.type 9 i0 (.string ⟨#[]⟩) 1 16 Tryz.underlying37 hi0 hz0 hz1 hz2 rfl (by decide) v xs.length (sC xs) hown ⟨bx, 0, none⟩ 1 1 [.string ⟨y.toArray⟩] rfl (fun j u hj => by
    match j, hj with
    | 0, hj =>
      simp at hj
      subst hj
      rw [add_head]
      exact blkc hb 0
    | j + 1, hj => simp at hj) (fun u hu => by rw [List.mem_singleton.1 hu]; rfl) (by unfold maxLen; omega) (by omega) hbase
  rcases h2.2 with ⟨h', _⟩ | ⟨g', cap', cur', h', _⟩
  · exact absurd (h4.1 h').2 (by simp)
  subst h'
  rw [← sC_snoc] at h2
  have e : xs.length + 1 = (xs ++ [y]).length := by simp
  rw [e] at h2 h5
  have hq := h g' cap' w' _ (hidd rfl) h2 h3 (h5.imp id fun h z hz => by rw [hz] at h; injection h with h; omega)
  unfold Oper.wp execOp
  simp only [ho, resolve, invoke, builtin, Sem.run_bind, Sem.run_pure, Result.andThen_ok, List.map_toArray, List.map_cons, List.map_nil, hs, hx, hr]
  rw [← e] at hq
  exact hq
theorem wpOp_pushZL {W : World} {ops : Array Oper} {i : Nat} {o : Oper} {a : Act} {K : Act → World → Prop} {Q : Exit → Act → World → Prop} (hio : ops[i]? = some o) (hw : Region.wanted o (yielded ops a.tmps) = true) (s x : Operand)
    (ho : o.op = .call { callee := .builtin .append, args := #[s, x], argTypes := #[23, 23] })
    (base : Nat) (v : Value) (xs : List Int) (hs : a.eval s = v) (hown : W.ownsRow base 3 1 v xs.length (zC xs)) (bx : Nat) (y : Int) (hx : a.eval x = .slice (some ⟨bx, 0, none⟩) 1 1) (hb : W.heap[bx]? = some (.cells #[.int .i64 y] 3)) (hl : xs.length ≤ 1048576) (hbase : base ≤ W.heap.size)
    (h : ∀ g c w' N, Hid ((xs ++ [y]).length = N) → w'.ownsRow base 3 1 (.slice (some ⟨g, 0, none⟩) N c) N (zC (xs ++ [y])) → W.grownBy w' v.ownBlock → ((Value.slice (some ⟨g, 0, none⟩) N c).ownBlock = v.ownBlock ∨ ∀ z, (Value.slice (some ⟨g, 0, none⟩) N c).ownBlock = some z → W.heap.size ≤ z) → K (a.put o.dst (.slice (some ⟨g, 0, none⟩) N c)) w') :
    wpOp Tryz.prog ops Q i K a W := by
  obtain ⟨i0, hi0, hz0, hz1, hz2⟩ := info_parts Tryz.infoIntL
  refine wpOp_wp hio hw ?_
  obtain ⟨v', w', hr, h2, h3, h4, h5⟩ := run_append_own_at (P := Tryz.prog) W base 23 o.type 3 i0 (.int .i64 0) 1 8 Tryz.underlying23 hi0 hz0 hz1 hz2 rfl (by decide) v xs.length (zC xs) hown ⟨bx, 0, none⟩ 1 1 [.int .i64 y] rfl (fun j u hj => by
    match j, hj with
    | 0, hj =>
      simp at hj
      subst hj
      rw [add_head]
      exact blkc hb 0
    | j + 1, hj => simp at hj) (fun u hu => by rw [List.mem_singleton.1 hu]; rfl) (by unfold maxLen; omega) (by omega) hbase
  rcases h2.2 with ⟨h', _⟩ | ⟨g', cap', cur', h', _⟩
  · exact absurd (h4.1 h').2 (by simp)
  subst h'
  rw [← zC_snoc] at h2
  have e : xs.length + 1 = (xs ++ [y]).length := by simp
  rw [e] at h2 h5
  have hq := h g' cap' w' _ (hidd rfl) h2 h3 (h5.imp id fun h z hz => by rw [hz] at h; injection h with h; omega)
  unfold Oper.wp execOp
  simp only [ho, resolve, invoke, builtin, Sem.run_bind, Sem.run_pure, Result.andThen_ok, List.map_toArray, List.map_cons, List.map_nil, hs, hx, hr]
  rw [← e] at hq
  exact hq
theorem wpOp_pushVL {W : World} {ops : Array Oper} {i : Nat} {o : Oper} {a : Act} {K : Act → World → Prop} {Q : Exit → Act → World → Prop} (hio : ops[i]? = some o) (hw : Region.wanted o (yielded ops a.tmps) = true) (s x : Operand)
    (ho : o.op = .call { callee := .builtin .append, args := #[s, x], argTypes := #[24, 24] })
    (base : Nat) (v : Value) (m : Nat) (ys : List Value) (hs : a.eval s = v) (hown : W.ownsRow base 88 3 v m ys) (bx : Nat) (u0 u1 u2 : Value) (hx : a.eval x = .slice (some ⟨bx, 0, none⟩) 1 1) (hb : W.heap[bx]? = some (.cells #[u0, u1, u2] 88)) (h1c : u0.oneCell' = true ∧ u1.oneCell' = true ∧ u2.oneCell' = true) (hl : m ≤ 1048576) (hbase : base ≤ W.heap.size)
    (h : ∀ g c w' N, Hid (m + 1 = N) → w'.ownsRow base 88 3 (.slice (some ⟨g, 0, none⟩) N c) N (ys ++ [u0, u1, u2]) → W.grownBy w' v.ownBlock → K (a.put o.dst (.slice (some ⟨g, 0, none⟩) N c)) w') :
    wpOp Tryz.prog ops Q i K a W := by
  obtain ⟨i0, hi0, hz0, hz1, hz2⟩ := info_parts Tryz.infoValL
  refine wpOp_wp hio hw ?_
  obtain ⟨v', w', hr, h2, h3, h4, h5⟩ := run_append_own_at (P := Tryz.prog) W base 24 o.type 88 i0 (.agg #[.string ⟨#[]⟩, .slice none 0 0, .slice none 0 0]) 3 64 Tryz.underlying24 hi0 hz0 hz1 hz2 rfl (by decide) v m ys hown ⟨bx, 0, none⟩ 1 1 [u0, u1, u2] rfl (fun j u hj => by
    rw [Go.WideShapes.add_plain, Nat.zero_add, blkc hb j]
    simpa using hj) (fun u hu => by
    simp only [List.mem_cons, List.not_mem_nil, or_false] at hu
    rcases hu with rfl | rfl | rfl
    · exact h1c.1
    · exact h1c.2.1
    · exact h1c.2.2) (by unfold maxLen; omega) (by omega) hbase
  rcases h2.2 with ⟨h', _⟩ | ⟨g', cap', cur', h', _⟩
  · exact absurd (h4.1 h').2 (by simp)
  subst h'
  have hq := h g' cap' w' _ (hidd rfl) h2 h3
  unfold Oper.wp execOp
  simp only [ho, resolve, invoke, builtin, Sem.run_bind, Sem.run_pure, Result.andThen_ok, List.map_toArray, List.map_cons, List.map_nil, hs, hx, hr]
  exact hq
theorem exec_ixV (W : World) (ρ : Operand → Value) (o : Oper) (x y : Operand) (ho : o.op = .indexAddr 24 x y) (g X N c : Nat) (hx : ρ x = .slice (some ⟨g, 0, none⟩) N c) (hy : ρ y = .int .i64 (X : Int)) (h : X < N) (hN : N ≤ 100) :
    (execOp ρ o).run Tryz.prog W = .ok (.value (.pointer (some ⟨g, X * 3, none⟩))) W := by
  have hz : (X : Int) < (N : Int) := by omega
  unfold execOp
  simp only [ho, hx, hy, Sem.run_bind, Sem.run_pure, Result.andThen_ok]
  go_simp
theorem exec_ldVal (W : World) (ρ : Operand → Value) (o : Oper) (x : Operand) (ho : o.op = .load 88 x) (b off : Nat) (u0 u1 u2 : Value) (hx : ρ x = .pointer (some ⟨b, off, none⟩))
    (h0 : W.cell? ⟨b, off, none⟩ = some u0) (h1 : W.cell? ⟨b, off + 1, none⟩ = some u1) (h2 : W.cell? ⟨b, off + 2, none⟩ = some u2) :
    (execOp ρ o).run Tryz.prog W = .ok (.value (.agg #[u0, u1, u2])) W := by
  unfold execOp
  simp only [ho, Instr.loadAt, Instr.sureAddr, hx, Sem.run_bind, Sem.run_pure, Result.andThen_ok]
  go_simp
theorem exec_bxV (W : World) (ρ : Operand → Value) (o : Oper) (x : Operand) (ho : o.op = .buildSlice 24 1 #[(0, x)]) (u0 u1 u2 : Value) (hx : ρ x = .agg #[u0, u1, u2]) :
    (execOp ρ o).run Tryz.prog W = .ok (.value (.slice (some ⟨W.heap.size, 0, none⟩) 1 1)) (W.alloc (.cells #[u0, u1, u2] 88)) := by
  unfold execOp
  simp only [ho, hx, Sem.run_bind, Sem.run_pure, Result.andThen_ok]
  go_simp
/-- What the loads of a region find. -/
def SB (g3 gv k : Nat) (dv u0 u1 u2 : Value) (u : World) : Prop := u.cell? ⟨g3, 1, none⟩ = some dv ∧ u.cell? ⟨gv, k * 3, none⟩ = some u0 ∧ u.cell? ⟨gv, k * 3 + 1, none⟩ = some u1 ∧ u.cell? ⟨gv, k * 3 + 2, none⟩ = some u2
theorem BD.sb {w W : World} {base b : Nat} {ao : Option Addr} {n cap : Nat} {A : Int} {g3 g4 gv m c k : Nat} {did : List UInt8} {V : List Vl} {ys : List Value} {u0 u1 u2 : Value} (h : BD w base b ao n cap A g3 g4 did (.slice (some ⟨gv, 0, none⟩) m c) V ys W) (hm : m = V.length) (hk : k < m) (h0 : ys[k * 3]? = some u0) (h1 : ys[k * 3 + 1]? = some u1) (h2 : ys[k * 3 + 2]? = some u2) : SB g3 gv k (.slice (some ⟨gv, 0, none⟩) m c) u0 u1 u2 W := by
  subst hm
  have hr := h.doc.row
  exact ⟨blkc h.box 1, (hr.cellAt (k * 3) (by omega)).trans h0, (hr.cellAt (k * 3 + 1) (by omega)).trans h1, (hr.cellAt (k * 3 + 2) (by omega)).trans h2⟩
theorem repeatS (t : ByteArray) (N : Nat) (w : World) (ht : t.size ≤ 16) (hN : N ≤ 100000) :
    Calls Tryz.prog 35 #[.string t, .int .i64 (N : Int)] w fun e w' => ∃ l : List UInt8, e = .returned (.string ⟨l.toArray⟩) ∧ l.length ≤ t.size * N ∧ Below w.heap.size w w' := by
  refine (repeat_any t N w ht hN).mono ?_
  rintro e w' ⟨r, rfl, hr, hb⟩
  exact ⟨r.data.toList, by cases r; simp, by rw [← Lib.size_eq]; exact hr, hb⟩
end Go.Proofs.YtpdiaddgialanaaGreatDoor

namespace Go.Proofs.YtpdiaddgialanaaGreatDoor
open Go Go.RowKit
set_option linter.unusedVariables false
set_option linter.unusedSimpArgs false
set_option maxRecDepth 100000

/-! Numbers and records are drawn. -/
theorem tabL_at {W : World} {q : Nat} (zs : List Int) (y : Nat) (hy : y < zs.length) (h : W.heap[q]? = some (.cells (zC zs).toArray 3)) : ∃ zl : Int, W.cell? ⟨q, y, none⟩ = some (.int .i64 zl) := by
  refine ⟨zs[y], ?_⟩
  rw [blkc h y]
  simp [zC, hy]
def DrawnZ (w : World) (b : Nat) (ao : Option Addr) (n cap : Nat) (A : Int) (e : Ending) (w' : World) : Prop := ∃ x : Int, e = .returned (.int .i64 x) ∧ Sx b ao n cap w' A ∧ But (fun x => x = b) w w'
set_option maxHeartbeats 4000000 in
theorem num_any' (b : Nat) (ao : Option Addr) (n cap : Nat) (A : Int) (w : World) (hn : n ≤ 1048576) (hA : A ≤ 100000) (hs : Sx b ao n cap w A) :
    Calls Tryz.prog 34 #[.pointer (some ⟨b, 0, none⟩)] w (DrawnZ w b ao n cap (A + 12)) := by
  have HS := hidd hs
  clear hs
  go_enter Tryz.func34, Tryz.ntmps34
  go_wp2_with fail
  refine (nextS HS.out hn (by omega) 12 (by omega) (by omega)).mono ?_
  rintro e w1 ⟨r, rfl, hr, hs1, hb1⟩
  have HS1 := hidd hs1
  have HB := hidd hb1
  clear hs1 hb1
  obtain ⟨rz, hrz⟩ : ∃ z : Int, (r : Int) = z := ⟨_, rfl⟩
  simp only [hrz]
  clear hrz
  by_cases h0 : rz = 0
  · subst h0
    go_wp2_with fail
    have hba : Below w1.heap.size w1 (w1.alloc (.cells #[.int .i64 0, .int .i64 1, .int .i64 127, .int .i64 128, .int .i64 16383, .int .i64 16384, .int .i64 4611686018427387903, .int .i64 4611686018427387902, .int .i64 72057594037927935, .int .i64 72057594037927936] 3)) := (Below.refl _ _).alloc (Nat.le_refl _) _
    have HSt := hidd (HS1.out.below hba)
    have HBt := hidd (HB.out.more (But.of_below hba))
    have HT := hidd (heap_alloc_new w1 (.cells #[.int .i64 0, .int .i64 1, .int .i64 127, .int .i64 128, .int .i64 16383, .int .i64 16384, .int .i64 4611686018427387903, .int .i64 4611686018427387902, .int .i64 72057594037927935, .int .i64 72057594037927936] 3))
    have HTb : Hid (b < w1.heap.size) := HS1.out.lt
    clear hba
    obtain ⟨tq, htq⟩ : ∃ g, w1.heap.size = g := ⟨_, rfl⟩
    rw [htq] at HT HTb
    simp only [htq]
    clear htq
    generalize w1.alloc (.cells #[.int .i64 0, .int .i64 1, .int .i64 127, .int .i64 128, .int .i64 16383, .int .i64 16384, .int .i64 4611686018427387903, .int .i64 4611686018427387902, .int .i64 72057594037927935, .int .i64 72057594037927936] 3) = wt at *
    refine (nextS HSt.out hn (by omega) 10 (by omega) (by omega)).mono ?_
    rintro e w7 ⟨y, rfl, hy, hs7, hb7⟩
    have HT7 := hidd (hb7.blk HT.out (fun e => by have := HTb.out; omega))
    obtain ⟨zl, hcl⟩ := tabL_at [0, 1, 127, 128, 16383, 16384, 4611686018427387903, 4611686018427387902, 72057594037927935, 72057594037927936] y (by simp; omega) HT7.out
    have hyz : (y : Int) < 10 := by omega
    have HF : Hid (Sx b ao n cap w7 (A + 12) ∧ But (fun x => x = b) w w7) := ⟨hs7.mono (by omega), HBt.out.more hb7⟩
    clear hs7 hb7
    go_wp2
    go_ret
    exact ⟨zl, rfl, HF.out⟩

  · have h0b : (rz == 0) = false := by simpa using h0
    by_cases h1 : rz = 1
    · subst h1
      go_wp2_with fail
      refine (nextS HS1.out hn (by omega) 16777216 (by omega) (by omega)).mono ?_
      rintro e w2 ⟨x, rfl, hx, hs2, hb2⟩
      have HS2 := hidd hs2
      have HB2 := hidd (HB.out.more hb2)
      clear hs2 hb2
      go_wp2_with fail
      refine (nextS HS2.out hn (by omega) 65536 (by omega) (by omega)).mono ?_
      rintro e w3 ⟨y, rfl, hy, hs3, hb3⟩
      have HF : Hid (Sx b ao n cap w3 (A + 12) ∧ But (fun x => x = b) w w3) := ⟨hs3.mono (by omega), HB2.out.more hb3⟩
      clear hs3 hb3
      go_wp2
      go_ret
      exact ⟨_, rfl, HF.out⟩
    · have h1b : (rz == 1) = false := by simpa using h1
      by_cases h2 : rz = 2 ∨ rz = 3
      · have hgo : ∀ q : Int, q = 2 ∨ q = 3 → (q == 0) = false ∧ (q == 1) = false := fun q hq => by rcases hq with rfl | rfl <;> decide
        rcases h2 with h2 | h2
        all_goals
          subst h2
          go_wp2_with fail
          refine (nextS HS1.out hn (by omega) 100000 (by omega) (by omega)).mono ?_
          rintro e w3 ⟨y, rfl, hy, hs3, hb3⟩
          have HF : Hid (Sx b ao n cap w3 (A + 12) ∧ But (fun x => x = b) w w3) := ⟨hs3.mono (by omega), HB.out.more hb3⟩
          clear hs3 hb3
          go_wp2
          go_ret
          exact ⟨_, rfl, HF.out⟩
      · have h2b : (rz == 2) = false := by simp; omega
        have h3b : (rz == 3) = false := by simp; omega
        go_wp2_with fail
        refine (nextS HS1.out hn (by omega) 60 (by omega) (by omega)).mono ?_
        rintro e w3 ⟨y, rfl, hy, hs3, hb3⟩
        have HF : Hid (Sx b ao n cap w3 (A + 12) ∧ But (fun x => x = b) w w3) := ⟨hs3.mono (by omega), HB.out.more hb3⟩
        clear hs3 hb3
        go_wp2
        go_ret
        exact ⟨_, rfl, HF.out⟩
set_option maxHeartbeats 4000000 in
theorem oddNum_any (b : Nat) (ao : Option Addr) (n cap : Nat) (A : Int) (w : World) (hn : n ≤ 1048576) (hA : A ≤ 90000) (hs : Sx b ao n cap w A) :
    Calls Tryz.prog 15 #[.pointer (some ⟨b, 0, none⟩)] w (DrawnZ w b ao n cap (A + 20)) := by
  have HS := hidd hs
  clear hs
  go_enter Tryz.func15, Tryz.ntmps15
  go_wp2_with fail
  refine (chanceS HS.out hn (by omega) 6 (by omega) (by omega)).mono ?_
  rintro e w1 ⟨x, rfl, hs1, hb1⟩
  have HS1 := hidd hs1
  have HB := hidd hb1
  clear hs1 hb1
  cases x with
  | true =>
    go_wp2_with fail
    have hba : Below w1.heap.size w1 (w1.alloc (.cells #[.int .i64 (-1), .int .i64 4611686018427387904, .int .i64 9223372036854775807, .int .i64 (-9223372036854775808)] 3)) := (Below.refl _ _).alloc (Nat.le_refl _) _
    have HSt := hidd (HS1.out.below hba)
    have HBt := hidd (HB.out.more (But.of_below hba))
    have HT := hidd (heap_alloc_new w1 (.cells #[.int .i64 (-1), .int .i64 4611686018427387904, .int .i64 9223372036854775807, .int .i64 (-9223372036854775808)] 3))
    have HTb : Hid (b < w1.heap.size) := HS1.out.lt
    clear hba
    obtain ⟨tq, htq⟩ : ∃ g, w1.heap.size = g := ⟨_, rfl⟩
    rw [htq] at HT HTb
    simp only [htq]
    clear htq
    generalize w1.alloc (.cells #[.int .i64 (-1), .int .i64 4611686018427387904, .int .i64 9223372036854775807, .int .i64 (-9223372036854775808)] 3) = wt at *
    refine (nextS HSt.out hn (by omega) 4 (by omega) (by omega)).mono ?_
    rintro e w7 ⟨y, rfl, hy, hs7, hb7⟩
    have HT7 := hidd (hb7.blk HT.out (fun e => by have := HTb.out; omega))
    obtain ⟨zl, hcl⟩ := tabL_at [(-1), 4611686018427387904, 9223372036854775807, (-9223372036854775808)] y (by simp; omega) HT7.out
    have hyz : (y : Int) < 4 := by omega
    have HF : Hid (Sx b ao n cap w7 (A + 20) ∧ But (fun x => x = b) w w7) := ⟨hs7.mono (by omega), HBt.out.more hb7⟩
    clear hs7 hb7
    go_wp2
    go_ret
    exact ⟨zl, rfl, HF.out⟩

  | false =>
    go_wp2_with fail
    refine (num_any' b ao n cap _ w1 hn (by omega) HS1.out).mono ?_
    rintro e w2 ⟨x, rfl, hs2, hb2⟩
    have HF : Hid (Sx b ao n cap w2 (A + 20) ∧ But (fun x => x = b) w w2) := ⟨hs2.mono (by omega), HB.out.more hb2⟩
    clear hs2 hb2
    go_wp2
    go_ret
    exact ⟨_, rfl, HF.out⟩
end Go.Proofs.YtpdiaddgialanaaGreatDoor

namespace Go.Proofs.YtpdiaddgialanaaGreatDoor
open Go Go.RowKit
set_option linter.unusedVariables false
set_option linter.unusedSimpArgs false
set_option maxRecDepth 100000

/-! A record is drawn. -/
theorem DocO.low {W : World} {base base' : Nat} {dv : Value} {V : List Vl} {ys : List Value} (h : DocO W base dv V ys) (hb : base' ≤ base) : DocO W base' dv V ys :=
  ⟨own_low h.row hb, h.len, fun i hi => by
    obtain ⟨q0, ⟨v1, q1, q2⟩, v2, q3, q4⟩ := h.val i hi
    exact ⟨q0, ⟨v1, q1, own_low q2 hb⟩, v2, q3, own_low q4 hb⟩, h.apt⟩
def DrawnR (w : World) (b : Nat) (ao : Option Addr) (n cap : Nat) (A sq : Int) (e : Ending) (w' : World) : Prop :=
  ∃ (kd : Int) (id did : List UInt8) (dv : Value) (V : List Vl) (ys : List Value), e = .returned (.agg #[.int .i64 kd, .int .i64 sq, .string ⟨id.toArray⟩, .string ⟨did.toArray⟩, dv]) ∧ id.length ≤ 10 ∧ did.length ≤ 3 ∧ DocO w' w.heap.size dv V ys ∧ SmV V ∧ Sx b ao n cap w' A ∧ But (fun x => x = b) w w'
/-- Five cells of one block written anew. -/
def set5 (w : World) (g : Nat) (y0 y1 y2 y3 y4 : Value) : World := ((((w.setCell ⟨g, 0, none⟩ y0).setCell ⟨g, 1, none⟩ y1).setCell ⟨g, 2, none⟩ y2).setCell ⟨g, 3, none⟩ y3).setCell ⟨g, 4, none⟩ y4
theorem set5_at {w : World} {g : Nat} {t : TypeId} {x0 x1 x2 x3 x4 : Value} (h : w.heap[g]? = some (.cells #[x0, x1, x2, x3, x4] t)) (y0 y1 y2 y3 y4 : Value) : (set5 w g y0 y1 y2 y3 y4).heap[g]? = some (.cells #[y0, y1, y2, y3, y4] t) := by
  have h1 := blk_setk (blk_setk (blk_setk (blk_setk (blk_setk h 0 y0) 1 y1) 2 y2) 3 y3) 4 y4
  simpa [set5] using h1
theorem set5_oth {w : World} {g x : Nat} (h : x ≠ g) (y0 y1 y2 y3 y4 : Value) : (set5 w g y0 y1 y2 y3 y4).heap[x]? = w.heap[x]? := by
  unfold set5
  rw [heap_set_other _ _ _ _ _ h, heap_set_other _ _ _ _ _ h, heap_set_other _ _ _ _ _ h, heap_set_other _ _ _ _ _ h, heap_set_other _ _ _ _ _ h]
theorem set5_but {w : World} {g : Nat} (y0 y1 y2 y3 y4 : Value) : But (fun x => x = g) w (set5 w g y0 y1 y2 y3 y4) :=
  (((((But.refl (fun x => x = g) w).set g 0 y0 rfl).set g 1 y1 rfl).set g 2 y2 rfl).set g 3 y3 rfl).set g 4 y4 rfl
theorem ba_eta (x : ByteArray) : x = ⟨x.data.toList.toArray⟩ := by cases x; simp
theorem set5_keepD {w : World} {g : Nat} {cs : Array Value} (h : w.heap[g]? = some (.cells cs 28)) (y0 y1 y2 y3 y4 : Value) : KeepD w (set5 w g y0 y1 y2 y3 y4) :=
  ⟨by simp [set5], fun x cs' t' ht hx => (set5_oth (fun e => by
    subst e
    rw [h] at hx
    injection hx with hx
    injection hx with _ hx
    subst hx
    revert ht
    decide) _ _ _ _ _).trans hx⟩
set_option maxHeartbeats 8000000 in
theorem drawRec_any (b : Nat) (ao : Option Addr) (n cap : Nat) (A sq : Int) (w : World) (hn : n ≤ 1048576) (hA : A ≤ 50000) (hs : Sx b ao n cap w A) (hcb : ∀ j, j < n → ∃ blk off, ao = some ⟨blk, off, none⟩ ∧ blk < w.heap.size) :
    Calls Tryz.prog 13 #[.pointer (some ⟨b, 0, none⟩), .int .i64 sq] w (DrawnR w b ao n cap (A + 3000) sq) := by
  have HS := hidd hs
  have HC := hidd hcb
  have hlt := hs.lt
  clear hs hcb
  go_enter Tryz.func13, Tryz.ntmps13
  go_upto_region 1 with fail
  have HB1 : Hid (Below w.heap.size w (w.alloc (.cells #[.int .i64 0, .int .i64 0, .string ⟨#[]⟩, .string ⟨#[]⟩, .slice none 0 0] 28))) := (Below.refl _ _).alloc (Nat.le_refl _) _
  have HX1 := hidd (heap_alloc_new w (.cells #[.int .i64 0, .int .i64 0, .string ⟨#[]⟩, .string ⟨#[]⟩, .slice none 0 0] 28))
  obtain ⟨g4, hg4⟩ : ∃ g, w.heap.size = g := ⟨_, rfl⟩
  have HG : Hid (w.heap.size ≤ g4 ∧ g4 ≠ b) := ⟨Nat.le_of_eq hg4, by omega⟩
  rw [hg4] at HX1
  simp only [hg4]
  clear hg4
  generalize w.alloc (.cells #[.int .i64 0, .int .i64 0, .string ⟨#[]⟩, .string ⟨#[]⟩, .slice none 0 0] 28) = w1 at *
  have HS1 := hidd (HS.out.below HB1.out)
  go_wp2_with fail
  refine (chanceS HS1.out hn (by omega) 3 (by omega) (by omega)).mono ?_
  rintro e w2 ⟨x, rfl, hs2, hb2⟩
  have HS2 := hidd hs2
  have HB2 := hidd ((But.of_below HB1.out).more hb2)
  have HX2 := hidd (hb2.blk HX1.out HG.out.2)
  have HZ2 : Hid (w1.heap.size ≤ w2.heap.size) := hb2.size
  clear hs2 hb2 HS1 HX1
  cases x with
  | true =>
    go_wp2_with fail
    refine (nextS HS2.out hn (by omega) 10 (by omega) (by omega)).mono ?_
    rintro e w3 ⟨y, rfl, hy, hs3, hb3⟩
    have HS3 := hidd hs3
    have HB3 := hidd (HB2.out.more hb3)
    have HX3 := hidd (hb3.blk HX2.out HG.out.2)
    clear hs3 hb3 HS2 HB2 HX2
    go_wp2_with fail
    refine (dec_any y w3 (by omega)).mono ?_
    rintro e w4 ⟨t, rfl, ht, hb4⟩
    have HS4 := hidd (HS3.out.below hb4)
    have HB4 := hidd (HB3.out.more (But.of_below hb4))
    have HX4 := hidd (blko HX3.out hb4)
    clear hb4 HS3 HB3 HX3
    obtain ⟨id, hid, hidl⟩ : ∃ id : List UInt8, (⟨#[100]⟩ : ByteArray) ++ t = ⟨id.toArray⟩ ∧ id.length ≤ 10 := ⟨((⟨#[100]⟩ : ByteArray) ++ t).data.toList, ba_eta _, by rw [← Lib.size_eq, ByteArray.size_append]; show 1 + t.size ≤ 10; omega⟩
    have htsz : t.size ≤ 3 := ht
    have x0 := blkc HX4.out 0
    have x1 := blkc HX4.out 1
    have x2 := blkc HX4.out 2
    have x3 := blkc HX4.out 3
    have x4 := blkc HX4.out 4
    have y0 := blkf HX4.out 0
    have y1 := blkf HX4.out 1
    have y2 := blkf HX4.out 2
    have y3 := blkf HX4.out 3
    have y4 := blkf HX4.out 4
    simp only [List.getElem?_toArray, List.getElem?_cons_zero, List.getElem?_cons_succ] at x0 x1 x2 x3 x4
    go_wp2
    have hfin := hidd (set5_at HX4.out (.int .i64 2) (.int .i64 sq) (.string ⟨id.toArray⟩) (.string ⟨#[]⟩) (.slice none 0 0))
    have hS : Sx b ao n cap (set5 w4 g4 (.int .i64 2) (.int .i64 sq) (.string ⟨id.toArray⟩) (.string ⟨#[]⟩) (.slice none 0 0)) (A + 3000) := (HS4.out.butN (set5_but (.int .i64 2) (.int .i64 sq) (.string ⟨id.toArray⟩) (.string ⟨#[]⟩) (.slice none 0 0)) (fun e => HG.out.2 e.symm) (fun j hj => by obtain ⟨blk, off, h1, h2⟩ := HC.out j hj; exact ⟨blk, off, h1, Nat.lt_of_lt_of_le h2 HB4.out.size, fun e => by have := HG.out.1; omega⟩)).mono (by omega)
    have hB : But (fun x => x = b) w (set5 w4 g4 (.int .i64 2) (.int .i64 sq) (.string ⟨id.toArray⟩) (.string ⟨#[]⟩) (.slice none 0 0)) := ⟨HB4.out.os, HB4.out.tape, HB4.out.output, by have := HB4.out.size; simpa [set5] using this, fun i hi hne => (set5_oth (by have := HG.out.1; omega) _ _ _ _ _).trans (HB4.out.block i hi hne)⟩
    have hDo := (DocO.nil w4 w.heap.size).keep (set5_keepD HX4.out (.int .i64 2) (.int .i64 sq) (.string ⟨id.toArray⟩) (.string ⟨#[]⟩) (.slice none 0 0))
    unfold set5 at hfin hS hB hDo
    refine bodyPost_ret (v := .agg #[.int .i64 2, .int .i64 sq, .string ⟨id.toArray⟩, .string ⟨#[]⟩, .slice none 0 0]) ?_ rfl ⟨2, id, [], _, _, _, rfl, hidl, (Nat.zero_le _), hDo, ⟨Nat.zero_le _, fun x hx => by cases hx⟩, hS, hB⟩
    clear hS hB hDo x0 x1 x2 x3 x4 y0 y1 y2 y3 y4
    generalize ((((w4.setCell ⟨g4, 0, none⟩ (.int .i64 2)).setCell ⟨g4, 1, none⟩ (.int .i64 sq)).setCell ⟨g4, 2, none⟩ (.string ⟨id.toArray⟩)).setCell ⟨g4, 3, none⟩ (.string ⟨#[]⟩)).setCell ⟨g4, 4, none⟩ (.slice none 0 0) = wf at *
    have z0 := blkc hfin.out 0
    have z1 := blkc hfin.out 1
    have z2 := blkc hfin.out 2
    have z3 := blkc hfin.out 3
    have z4 := blkc hfin.out 4
    simp at z0 z1 z2 z3 z4
    simp [results, Tryz.results13, go_sem, z0, z1, z2, z3, z4]
  | false =>
    go_wp2_with fail
    refine (schema_any b ao n cap _ w2 hn (by omega) HS2.out (fun j hj => by obtain ⟨blk, off, h1, h2⟩ := HC.out j hj; exact ⟨blk, off, h1, Nat.lt_of_lt_of_le h2 HB2.out.size⟩)).mono ?_
    rintro e w3 ⟨g, m, c, rfl, hm1, hm5, hsc, hgl, hs3, hb3⟩
    have HS3 := hidd hs3
    have HB3 := hidd (HB2.out.more hb3)
    have HX3 := hidd (hb3.blk HX2.out HG.out.2)
    have HSc := hidd hsc
    have HGl : Hid (g < w3.heap.size ∧ g ≠ b) := ⟨by obtain ⟨_, _, _, h, _⟩ := hsc 0 (by omega); exact cell_lt h, by have := HS2.out.lt; omega⟩
    clear hs3 hb3 hsc HX2 hgl
    go_wp2_with fail
    refine (doc_any b ao n cap _ w3 g m c hn (by omega) HS3.out (fun j hj => by obtain ⟨blk, off, h1, h2⟩ := HC.out j hj; exact ⟨blk, off, h1, Nat.lt_of_lt_of_le h2 HB3.out.size⟩) HSc.out HGl.out.1 HGl.out.2 hm1 hm5).mono ?_
    rintro e w4 ⟨did, dv, V, ys, rfl, hdl, hdo, hsm, hs4, hb4⟩
    have HS4 := hidd hs4
    have HB4 := hidd (HB3.out.more hb4)
    have HX4 := hidd (hb4.blk HX3.out HG.out.2)
    have HDo := hidd (hdo.low HB3.out.size)
    have HSm := hidd hsm
    obtain ⟨ad, cd, rfl⟩ := own_slice hdo.row
    obtain ⟨NV, hNV⟩ : ∃ N, V.length = N := ⟨_, rfl⟩
    rw [hNV] at HDo
    simp only [hNV]
    clear hs4 hb4 hdo hsm HS3 HB3 HX3 hNV HS2 HB2
    have x0 := blkc HX4.out 0
    have x1 := blkc HX4.out 1
    have x2 := blkc HX4.out 2
    have x3 := blkc HX4.out 3
    have x4 := blkc HX4.out 4
    have y0 := blkf HX4.out 0
    have y1 := blkf HX4.out 1
    have y2 := blkf HX4.out 2
    have y3 := blkf HX4.out 3
    have y4 := blkf HX4.out 4
    simp only [List.getElem?_toArray, List.getElem?_cons_zero, List.getElem?_cons_succ] at x0 x1 x2 x3 x4
    go_wp2
    have hfin := hidd (set5_at HX4.out (.int .i64 1) (.int .i64 sq) (.string ⟨#[]⟩) (.string ⟨did.toArray⟩) (.slice ad NV cd))
    have hS : Sx b ao n cap (set5 w4 g4 (.int .i64 1) (.int .i64 sq) (.string ⟨#[]⟩) (.string ⟨did.toArray⟩) (.slice ad NV cd)) (A + 3000) := (HS4.out.butN (set5_but (.int .i64 1) (.int .i64 sq) (.string ⟨#[]⟩) (.string ⟨did.toArray⟩) (.slice ad NV cd)) (fun e => HG.out.2 e.symm) (fun j hj => by obtain ⟨blk, off, h1, h2⟩ := HC.out j hj; exact ⟨blk, off, h1, Nat.lt_of_lt_of_le h2 HB4.out.size, fun e => by have := HG.out.1; omega⟩)).mono (by omega)
    have hB : But (fun x => x = b) w (set5 w4 g4 (.int .i64 1) (.int .i64 sq) (.string ⟨#[]⟩) (.string ⟨did.toArray⟩) (.slice ad NV cd)) := ⟨HB4.out.os, HB4.out.tape, HB4.out.output, by have := HB4.out.size; simpa [set5] using this, fun i hi hne => (set5_oth (by have := HG.out.1; omega) _ _ _ _ _).trans (HB4.out.block i hi hne)⟩
    have hDo := (HDo.out).keep (set5_keepD HX4.out (.int .i64 1) (.int .i64 sq) (.string ⟨#[]⟩) (.string ⟨did.toArray⟩) (.slice ad NV cd))
    unfold set5 at hfin hS hB hDo
    refine bodyPost_ret (v := .agg #[.int .i64 1, .int .i64 sq, .string ⟨#[]⟩, .string ⟨did.toArray⟩, .slice ad NV cd]) ?_ rfl ⟨1, [], did, _, _, _, rfl, (Nat.zero_le _), hdl, hDo, HSm.out, hS, hB⟩
    clear hS hB hDo x0 x1 x2 x3 x4 y0 y1 y2 y3 y4
    generalize ((((w4.setCell ⟨g4, 0, none⟩ (.int .i64 1)).setCell ⟨g4, 1, none⟩ (.int .i64 sq)).setCell ⟨g4, 2, none⟩ (.string ⟨#[]⟩)).setCell ⟨g4, 3, none⟩ (.string ⟨did.toArray⟩)).setCell ⟨g4, 4, none⟩ (.slice ad NV cd) = wf at *
    have z0 := blkc hfin.out 0
    have z1 := blkc hfin.out 1
    have z2 := blkc hfin.out 2
    have z3 := blkc hfin.out 3
    have z4 := blkc hfin.out 4
    simp at z0 z1 z2 z3 z4
    simp [results, Tryz.results13, go_sem, z0, z1, z2, z3, z4]
end Go.Proofs.YtpdiaddgialanaaGreatDoor
