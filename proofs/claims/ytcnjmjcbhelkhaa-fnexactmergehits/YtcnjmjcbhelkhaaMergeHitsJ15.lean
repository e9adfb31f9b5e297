import Derived.Test.YtcnjmjcbhelkhaaMergeHitsJ04
import Derived.Test.YtcnjmjcbhelkhaaMergeHitsJ14
import Derived.Test.YtcnjmjcbhelkhaaMergeHitsJ12
namespace Go.Proofs.Ytcnjmjcbhelkhaa
open Go Go.RowKit Go.Shelf
set_option linter.unusedVariables false
set_option maxRecDepth 100000
set_option linter.unusedSimpArgs false

/-! The codes of MergeHits, one by one. -/
theorem any_getD {L : List (List Fd)} {p : List Fd → Bool} {i : Nat} (hi : i < L.length) (h : p (L.getD i []) = true) : L.any p = true := List.any_eq_true.2 ⟨L.getD i [], by simp [hi], h⟩
theorem any_getD_no {L : List (List Fd)} {p : List Fd → Bool} (h : ∀ i, i < L.length → p (L.getD i []) = false) : L.any p = false := by
  rw [List.any_eq_false]
  intro x hx
  obtain ⟨j, hj, rfl⟩ := List.getElem_of_mem hx
  have := h j hj
  simp only [List.getD_eq_getElem?_getD, List.getElem?_eq_getElem hj, Option.getD_some] at this
  simp [this]
theorem mhC_many {ds : List Bool} {L : List (List Fd)} {size : Int} (h : L.length > 16) : mhC ds L size = 11 := by rw [mhC, if_pos h]
theorem mhC_long {ds : List Bool} {L : List (List Fd)} {size : Int} {i : Nat} (h : ¬ L.length > 16) (hi : i < L.length) (h2 : (L.getD i []).length > 4096) : mhC ds L size = 2 := by
  rw [mhC, if_neg h, if_pos (any_getD hi (by simpa using h2))]
theorem mhC_rest {ds : List Bool} {L : List (List Fd)} {size : Int} (h : ¬ L.length > 16) (h2 : ∀ i, i < L.length → (L.getD i []).length ≤ 4096) : mhC ds L size = if size < 0 ∨ size > 1000 ∨ ds.length > 4 ∨ oddK ds.length L = true then 12 else if (L.any (badS ds)) = true then 17 else 0 := by
  have h3 : (L.any fun l => decide (l.length > 4096)) = false := any_getD_no fun i hi => by simpa using h2 i hi
  rw [mhC, if_neg h, if_neg (by rw [h3]; simp)]
theorem getD_memG {l : List Fd} {i : Nat} (h : i < l.length) : l.getD i fd0 ∈ l := by simp [h]
theorem oddK_yes {m : Nat} {L : List (List Fd)} {i k : Nat} (hi : i < L.length) (hk : k < (L.getD i []).length) (h : ((L.getD i []).getD k fd0).2.2.length ≠ m) : oddK m L = true := by
  unfold oddK
  exact any_getD hi (List.any_eq_true.2 ⟨(L.getD i []).getD k fd0, getD_memG hk, by simpa using h⟩)
theorem oddK_all {m : Nat} {L : List (List Fd)} (h : ∀ i, i < L.length → ∀ k, k < (L.getD i []).length → ((L.getD i []).getD k fd0).2.2.length = m) : oddK m L = false := by
  unfold oddK
  refine any_getD_no fun i hi => ?_
  rw [List.any_eq_false]
  intro f hf
  obtain ⟨k, hk, rfl⟩ := List.getElem_of_mem hf
  have := h i hi k hk
  rw [List.getD_eq_getElem?_getD, List.getElem?_eq_getElem hk] at this
  simpa using this
/-- An empty answer. -/
theorem MhAns.bad {ds : List Bool} {L : List (List Fd)} {size : Int} {w w1 : World} (hb : Below w.heap.size w w1) {C : Int} (hC : mhC ds L size = C) (h0 : C ≠ 0) : MhAns ds L size w (.returned (.tuple #[.slice (some ⟨w1.heap.size, 0, none⟩) 0 0, .int .i64 C])) (w1.alloc (.cells #[] 47)) := by
  have hl : mhL ds L size = [] := by rw [mhL, if_neg (by rw [hC]; exact h0)]
  refine ⟨some ⟨w1.heap.size, 0, none⟩, 0, 0, [], by rw [hC], ?_, hb.alloc hb.size _⟩
  rw [hl]
  have hs := hb.size
  refine ⟨⟨rfl, Or.inr ⟨w1.heap.size, 0, #[], rfl, hs, heap_alloc_new w1 _, Nat.le_refl _, by unfold maxLen; omega, rfl, rfl⟩⟩, fun b hb => ?_, fun j hj => absurd hj (by simp), fun j b hj _ => absurd hj (by simp), fun i j b _ hj _ => absurd hj (by simp)⟩
  have : w1.heap.size = b := Option.some.inj hb
  simp; omega
theorem HoldFF.at {w : World} {a : Option Addr} {L : List (List Fd)} (h : HoldFF w a L) {i : Nat} (hi : i < L.length) : ∃ b off, a = some ⟨b, off, none⟩ ∧ b < w.heap.size ∧ ∃ ra rc, w.cell? ⟨b, off + i, none⟩ = some (.slice ra (L.getD i []).length rc) ∧ (L.getD i []).length ≤ rc ∧ HoldFd w ra (L.getD i []) := by
  rcases h with h | ⟨b, off, ha, hbl, h⟩
  · rw [h] at hi; simp at hi
  · exact ⟨b, off, ha, hbl, h i hi⟩
/-- Two hits that are to be compared. -/
structure TwoAt (w : World) (sa : Option Addr) (kn : Nat) (b off p n1 rb ro rc k q n2 sb so sc i : Nat) (p0 : ByteArray) (p1 : Int) (ka : Option Addr) (p2 kc : Nat) (q0 : ByteArray) (q1 : Int) (ja : Option Addr) (q2 jc : Nat) (r : Bool) : Prop where
  l1 : w.cell? ⟨b, off + p, none⟩ = some (.slice (some ⟨rb, ro, none⟩) n1 rc)
  l2 : w.cell? ⟨b, off + q, none⟩ = some (.slice (some ⟨sb, so, none⟩) n2 sc)
  x0 : w.cell? ⟨rb, ro + k * 3, none⟩ = some (.string p0)
  x1 : w.cell? ⟨rb, ro + k * 3 + 1, none⟩ = some (.int .i64 p1)
  x2 : w.cell? ⟨rb, ro + k * 3 + 2, none⟩ = some (.slice ka p2 kc)
  y0 : w.cell? ⟨sb, so + i * 3, none⟩ = some (.string q0)
  y1 : w.cell? ⟨sb, so + i * 3 + 1, none⟩ = some (.int .i64 q1)
  y2 : w.cell? ⟨sb, so + i * 3 + 2, none⟩ = some (.slice ja q2 jc)
  call : ∀ (sc : Nat) (W : World), Below w.heap.size w W → Calls Try.prog 19 #[.slice sa kn sc, .agg #[.string p0, .int .i64 p1, .slice ka p2 kc], .agg #[.string q0, .int .i64 q1, .slice ja q2 jc]] W fun e w' => e = .returned (.bool r) ∧ Below W.heap.size W w'
theorem TwoAt.keep {w w' : World} {sa : Option Addr} {kn b off p n1 rb ro rc k q n2 sb so sc i : Nat} {p0 : ByteArray} {p1 : Int} {ka : Option Addr} {p2 kc : Nat} {q0 : ByteArray} {q1 : Int} {ja : Option Addr} {q2 jc : Nat} {r : Bool} (h : TwoAt w sa kn b off p n1 rb ro rc k q n2 sb so sc i p0 p1 ka p2 kc q0 q1 ja q2 jc r) (hb : Below w.heap.size w w') : TwoAt w' sa kn b off p n1 rb ro rc k q n2 sb so sc i p0 p1 ka p2 kc q0 q1 ja q2 jc r :=
  ⟨(hb.cell (p := ⟨b, off + p, none⟩) (cell_lt h.l1)).trans h.l1, (hb.cell (p := ⟨b, off + q, none⟩) (cell_lt h.l2)).trans h.l2, (hb.cell (p := ⟨rb, ro + k * 3, none⟩) (cell_lt h.x0)).trans h.x0, (hb.cell (p := ⟨rb, ro + k * 3 + 1, none⟩) (cell_lt h.x1)).trans h.x1, (hb.cell (p := ⟨rb, ro + k * 3 + 2, none⟩) (cell_lt h.x2)).trans h.x2, (hb.cell (p := ⟨sb, so + i * 3, none⟩) (cell_lt h.y0)).trans h.y0, (hb.cell (p := ⟨sb, so + i * 3 + 1, none⟩) (cell_lt h.y1)).trans h.y1, (hb.cell (p := ⟨sb, so + i * 3 + 2, none⟩) (cell_lt h.y2)).trans h.y2, fun s W hW => h.call s W (hb.trans (hW.mono hb.size))⟩
theorem two_at {w : World} {sa la : Option Addr} {ks : List (Tx × Bool)} {L : List (List Fd)} (hL : HoldFF w la L) (hS : HoldSK w sa ks) (hk4 : ks.length ≤ 4) (hKy : ∀ j, j < L.length → ∀ k, k < (L.getD j []).length → ((L.getD j []).getD k fd0).2.2.length = ks.length) {p k q i : Nat} (hp : p < L.length) (hk : k < (L.getD p []).length) (hq : q < L.length) (hi : i < (L.getD q []).length) :
    ∃ b off rb ro rc sb so sc p0 p1 ka p2 kc q0 q1 ja q2 jc, la = some ⟨b, off, none⟩ ∧ TwoAt w sa ks.length b off p (L.getD p []).length rb ro rc k q (L.getD q []).length sb so sc i p0 p1 ka p2 kc q0 q1 ja q2 jc (decide (fcM (dsOf ks) ((L.getD p []).getD k fd0) ((L.getD q []).getD i fd0) < 0)) := by
  obtain ⟨b, off, rfl, _, ra, rc, hc1, _, hf1⟩ := hL.at hp
  obtain ⟨b', off', he, _, sa', sc, hc2, _, hf2⟩ := hL.at hq
  injection he with he
  injection he with e1 e2
  subst e1 e2
  obtain ⟨rb, ro, rfl, _, x0, x1, ka, kc, x2, x3⟩ := hf1.at hk
  obtain ⟨sb, so, rfl, _, y0, y1, ja, jc, y2, y3⟩ := hf2.at hi
  exact ⟨b, off, rb, ro, rc, sb, so, sc, _, _, ka, _, kc, _, _, ja, _, jc, rfl, hc1, hc2, x0, x1, x2, y0, y1, y2, fun s W hW => ahead_any W sa s ks _ _ ka ja kc jc hk4 (hS.below hW) (x3.below hW) (y3.below hW) (hKy p hp k hk) (hKy q hq i hi)⟩
theorem rbx_call3 (W : World) (a : Act) (o : Oper) (f : FuncId) (x y q : Operand) (t u r : TypeId) (ho : o.op = .call { callee := .value (.func f), args := #[x, y, q], argTypes := #[t, u, r] }) (v z k : Value) (hx : a.eval x = v) (hy : a.eval y = z) (hq : a.eval q = k)
    (hf : (callFunc f #[v, z, k]).run Try.prog W = .ok (.enter f #[v, z, k]) W) : (execOp a.eval o).run Try.prog W = .ok (.enter f #[v, z, k]) W := by
  have hfn : a.eval (.func f) = .func (.func f) #[] #[] := rfl
  unfold execOp
  simp [ho, resolve, invoke, Deferred.ofValue, hfn, hx, hy, hq, hf]
theorem exec_loadFo (W : World) (ρ : Operand → Value) (o : Oper) (x : Operand) (ho : o.op = .load 47 x) (b off : Nat) (s : ByteArray) (z : Int) (a : Option Addr) (n c : Nat) (hx : ρ x = .pointer (some ⟨b, off, none⟩))
    (h0 : W.cell? ⟨b, off, none⟩ = some (.string s)) (h1 : W.cell? ⟨b, off + 1, none⟩ = some (.int .i64 z)) (h2 : W.cell? ⟨b, off + 2, none⟩ = some (.slice a n c)) : (execOp ρ o).run Try.prog W = .ok (.value (.agg #[.string s, .int .i64 z, .slice a n c])) W := by
  unfold execOp
  simp only [ho, Instr.loadAt, Instr.sureAddr, hx, Sem.run_bind, Sem.run_pure, Result.andThen_ok]
  go_simp
theorem exec_loadSo (W : World) (ρ : Operand → Value) (o : Oper) (x : Operand) (ho : o.op = .load 26 x) (b off : Nat) (s : Option Addr) (n c : Nat) (hx : ρ x = .pointer (some ⟨b, off, none⟩))
    (h0 : W.cell? ⟨b, off, none⟩ = some (.slice s n c)) : (execOp ρ o).run Try.prog W = .ok (.value (.slice s n c)) W := by
  unfold execOp
  simp only [ho, Instr.loadAt, Instr.sureAddr, hx, Sem.run_bind, Sem.run_pure, Result.andThen_ok]
  go_simp
theorem exec_loadIo (W : World) (ρ : Operand → Value) (o : Oper) (x : Operand) (ho : o.op = .load 3 x) (b off : Nat) (n : Int) (hx : ρ x = .pointer (some ⟨b, off, none⟩))
    (h0 : W.cell? ⟨b, off, none⟩ = some (.int .i64 n)) : (execOp ρ o).run Try.prog W = .ok (.value (.int .i64 n)) W := by
  unfold execOp
  simp only [ho, Instr.loadAt, Instr.sureAddr, hx, Sem.run_bind, Sem.run_pure, Result.andThen_ok]
  go_simp
theorem exec_ixSS (W : World) (ρ : Operand → Value) (o : Oper) (x y : Operand) (ho : o.op = .indexAddr 29 x y) (b off n c i : Nat) (hx : ρ x = .slice (some ⟨b, off, none⟩) n c) (hy : ρ y = .int .i64 (i : Int)) (hi : i < n) : (execOp ρ o).run Try.prog W = .ok (.value (.pointer (some ⟨b, off + i, none⟩))) W := by
  have hz : (i : Int) < (n : Int) := by omega
  unfold execOp
  simp only [ho, hx, hy, Sem.run_bind, Sem.run_pure, Result.andThen_ok]
  go_simp
theorem exec_ixS (W : World) (ρ : Operand → Value) (o : Oper) (x y : Operand) (ho : o.op = .indexAddr 26 x y) (b off n c i : Nat) (hx : ρ x = .slice (some ⟨b, off, none⟩) n c) (hy : ρ y = .int .i64 (i : Int)) (hi : i < n) : (execOp ρ o).run Try.prog W = .ok (.value (.pointer (some ⟨b, off + i * 3, none⟩))) W := by
  have hz : (i : Int) < (n : Int) := by omega
  unfold execOp
  simp only [ho, hx, hy, Sem.run_bind, Sem.run_pure, Result.andThen_ok]
  go_simp
theorem exec_ixI (W : World) (ρ : Operand → Value) (o : Oper) (x y : Operand) (ho : o.op = .indexAddr 45 x y) (b off n c i : Nat) (hx : ρ x = .slice (some ⟨b, off, none⟩) n c) (hy : ρ y = .int .i64 (i : Int)) (hi : i < n) : (execOp ρ o).run Try.prog W = .ok (.value (.pointer (some ⟨b, off + i, none⟩))) W := by
  have hz : (i : Int) < (n : Int) := by omega
  unfold execOp
  simp only [ho, hx, hy, Sem.run_bind, Sem.run_pure, Result.andThen_ok]
  go_simp
theorem exec_ixI0 (W : World) (ρ : Operand → Value) (o : Oper) (x y : Operand) (ho : o.op = .indexAddr 45 x y) (b n c i : Nat) (hx : ρ x = .slice (some ⟨b, 0, none⟩) n c) (hy : ρ y = .int .i64 (i : Int)) (hi : i < n) : (execOp ρ o).run Try.prog W = .ok (.value (.pointer (some ⟨b, i, none⟩))) W := by
  have h := exec_ixI W ρ o x y ho b 0 n c i hx hy hi
  rw [Nat.zero_add] at h
  exact h
theorem exec_subO (W : World) (ρ : Operand → Value) (o : Oper) (x y : Operand) (ho : o.op = .binOp .sub 3 x y 3) (a b c : Int) (hx : ρ x = .int .i64 a) (hy : ρ y = .int .i64 b) (hc : IntKind.i64.wrap (a - b) = c) : (execOp ρ o).run Try.prog W = .ok (.value (.int .i64 c)) W := by
  subst hc
  unfold execOp
  simp only [ho, hx, hy, Sem.run_bind, Sem.run_pure, Result.andThen_ok]
  go_simp
theorem run_makeM (M : Nat) (hM : M ≤ 1099511627776) (W : World) : (Instr.makeSlice 45 (.int .i64 (M : Int)) (.int .i64 (M : Int))).run Try.prog W = .ok (.slice (some ⟨W.heap.size, 0, none⟩) M M) (W.alloc (.cells ((List.replicate M 0).map mkI).toArray 3)) := by
  obtain ⟨i0, hi, hz0, hz1, hz2⟩ := info_parts Try.infoIntM
  have := run_make (P := Try.prog) W 45 3 i0 _ Try.underlying45 hi hz0 .i64 .i64 (M : Int) (M : Int) (by omega) (by omega) (by rw [hz2]; omega) (by omega)
  rw [hz1] at this
  simp only [Int.toNat_natCast, Nat.mul_one] at this
  rw [this]
  have e : madeCells (Value.int .i64 0).cells M = ((List.replicate M 0).map mkI).toArray := by
    apply Array.ext'
    rw [show (Value.int .i64 0).cells = #[Value.int .i64 0] from rfl, toList_madeCells_one]
    simp [mkI]
  rw [e]
theorem makeM_own (w : World) (M base : Nat) (hM : M ≤ 1099511627776) (hb : base ≤ w.heap.size) : (w.alloc (.cells ((List.replicate M 0).map mkI).toArray 3)).ownsRow base 3 1 (.slice (some ⟨w.heap.size, 0, none⟩) M M) M ((List.replicate M 0).map mkI) := by
  have := World.ownsRow_lit (base := base) (e := 3) (size := 1) w ((List.replicate M 0).map mkI).toArray M hb (by unfold maxLen; omega) (by simp)
  simpa using this
end Go.Proofs.Ytcnjmjcbhelkhaa

namespace Go.Proofs.Ytcnjmjcbhelkhaa
open Go Go.RowKit
set_option linter.unusedVariables false
set_option maxRecDepth 100000
set_option linter.unusedSimpArgs false

/-! What spec.MergeHits has while it merges. -/
def remM (L : List (List Fd)) (ats : List Nat) : List (List Fd) := (List.range L.length).map fun i => (L.getD i []).drop (ats.getD i 0)
theorem remM_len (L : List (List Fd)) (ats : List Nat) : (remM L ats).length = L.length := by simp [remM]
theorem remM_at (L : List (List Fd)) (ats : List Nat) {i : Nat} (hi : i < L.length) : (remM L ats).getD i [] = (L.getD i []).drop (ats.getD i 0) := by
  unfold remM
  rw [List.getD_eq_getElem?_getD, List.getElem?_map, List.getElem?_range hi]
  rfl
theorem remM_zero (L : List (List Fd)) : remM L (List.replicate L.length 0) = L := by
  apply List.ext_getElem?
  intro i
  by_cases hi : i < L.length
  · unfold remM
    rw [List.getElem?_map, List.getElem?_range hi]
    simp [hi]
  · rw [List.getElem?_eq_none (by rw [remM_len]; omega), List.getElem?_eq_none (by omega)]
theorem remM_step {L : List (List Fd)} {ats : List Nat} {b : Nat} (hb : b < L.length) (hl : ats.length = L.length) : remM L (ats.set b (ats.getD b 0 + 1)) = (remM L ats).set b ((remM L ats).getD b []).tail := by
  apply List.ext_getElem?
  intro i
  by_cases hi : i < L.length
  · rw [List.getElem?_set]
    by_cases e : b = i
    · subst e
      rw [if_pos rfl, if_pos (by rw [remM_len]; exact hi), remM_at L ats hi]
      unfold remM
      rw [List.getElem?_map, List.getElem?_range hi]
      simp only [Option.map_some, Option.some.injEq]
      rw [List.getD_eq_getElem?_getD, List.getElem?_set, if_pos rfl, if_pos (by omega)]
      simp
    · rw [if_neg e]
      unfold remM
      rw [List.getElem?_map, List.getElem?_map, List.getElem?_range hi]
      simp only [Option.map_some, Option.some.injEq]
      congr 1
      rw [List.getD_eq_getElem?_getD, List.getElem?_set, if_neg e, ← List.getD_eq_getElem?_getD]
  · rw [List.getElem?_eq_none (by rw [remM_len]; omega), List.getElem?_eq_none (by rw [List.length_set, remM_len]; omega)]
theorem drop_head {l : List Fd} {k : Nat} (h : k < l.length) : (l.drop k).headD fd0 = l.getD k fd0 ∧ l.drop k ≠ [] := by
  rw [List.drop_eq_getElem_cons h]
  simp [h]
theorem remM_hit {L : List (List Fd)} {ats : List Nat} {i : Nat} (hi : i < L.length) (h : ats.getD i 0 < (L.getD i []).length) : hitM (remM L ats) i = (L.getD i []).getD (ats.getD i 0) fd0 ∧ (remM L ats).getD i [] ≠ [] := by
  unfold hitM
  rw [remM_at L ats hi]
  exact drop_head h
theorem remM_nil {L : List (List Fd)} {ats : List Nat} {i : Nat} (hi : i < L.length) (h : ¬ ats.getD i 0 < (L.getD i []).length) : (remM L ats).getD i [] = [] := by
  rw [remM_at L ats hi]
  exact List.drop_of_length_le (by omega)
def atC (ats : List Nat) : List Value := ats.map fun (x : Nat) => mkI (x : Int)
theorem atC_at (ats : List Nat) {i : Nat} (h : i < ats.length) : (atC ats)[i]? = some (.int .i64 ((ats.getD i 0 : Nat) : Int)) := by simp [atC, h, mkI]
theorem atC_set (ats : List Nat) (b x : Nat) : (atC ats).set b (.int .i64 ((x : Nat) : Int)) = atC (ats.set b x) := by unfold atC; rw [List.map_set]; rfl
structure SpI (w : World) (NS : Nat) (ds : List Bool) (L : List (List Fd)) (ga N : Nat) (out : List Fd) (ats : List Nat) (ov : Value) (W : World) : Prop where
  bel : Below w.heap.size w W
  ans : ∃ xs, AnsF W w.heap.size W.heap.size ov out xs ∧ ∀ j b, j < out.length → LiesF xs j b → ga < b
  row : W.ownsRow w.heap.size 3 1 (.slice (some ⟨ga, 0, none⟩) N N) N (atC ats)
  alen : ats.length = N
  eq : out ++ mrgM ds (NS - out.length) (remM L ats) = mrgM ds NS L
  le : out.length ≤ NS
theorem SpI.below {w W W' : World} {NS ga N : Nat} {ds : List Bool} {L : List (List Fd)} {out : List Fd} {ats : List Nat} {ov : Value} (h : SpI w NS ds L ga N out ats ov W) (hb : Below W.heap.size W W') : SpI w NS ds L ga N out ats ov W' := by
  obtain ⟨xs, h1, h2⟩ := h.ans
  exact ⟨h.bel.trans (hb.mono h.bel.size), ⟨xs, (h1.keep fun b cs t _ hlt _ _ => hb.block b hlt).mono hb.size, h2⟩, own_congr h.row fun b e => hb.block b (h.row.lt b e).2, h.alen, h.eq, h.le⟩
theorem SpI.cell {w W : World} {NS ga N : Nat} {ds : List Bool} {L : List (List Fd)} {out : List Fd} {ats : List Nat} {ov : Value} (h : SpI w NS ds L ga N out ats ov W) {i : Nat} (hi : i < N) : W.cell? ⟨ga, i, none⟩ = some (.int .i64 ((ats.getD i 0 : Nat) : Int)) := by
  rw [h.row.cellAt i (by omega)]
  exact atC_at ats (by rw [h.alen]; exact hi)
/-- A hit more. -/
theorem SpI.push {w W W1 W3 : World} {NS ga N g' c' n c b : Nat} {ds : List Bool} {L : List (List Fd)} {out : List Fd} {ats : List Nat} {ov : Value} {xs : List Value} {a : Option Addr} {f : Fd} (h : SpI w NS ds L ga N out ats ov W) (hA : AnsF W w.heap.size W.heap.size ov out xs) (hga : ∀ j b, j < out.length → LiesF xs j b → ga < b)
    (hN : N = L.length) (hbest : BestM ds (remM L ats) (remM L ats).length b) (hf : hitM (remM L ats) b = f) (hlt : out.length < NS) (h1 : Below W.heap.size W W1)
    (ho : W1.ownsRow W.heap.size 3 1 (.slice a n c) f.2.2.length (f.2.2.map mkI)) (hown : W3.ownsRow w.heap.size 47 3 (.slice (some ⟨g', 0, none⟩) (out.length + 1) c') (out.length + 1) (xs ++ [.string (bs f.1), .int .i64 f.2.1, .slice a n c]))
    (hg : W1.grownBy W3 ov.ownBlock) :
    W3.ownsRow w.heap.size 3 1 (.slice (some ⟨ga, 0, none⟩) N N) N (atC ats) ∧ SpI w NS ds L ga N (out ++ [f]) (ats.set b (ats.getD b 0 + 1)) (.slice (some ⟨g', 0, none⟩) (out.length + 1) c') (W3.setCell ⟨ga, b, none⟩ (.int .i64 ((ats.getD b 0 + 1 : Nat) : Int))) := by
  have hsz := h1.size
  have key : ∀ x : Nat, x < W.heap.size → ov.ownBlock ≠ some x → W3.heap[x]? = W.heap[x]? := fun x hx hv => by rw [hg.block x (Nat.lt_of_lt_of_le hx hsz) (fun e => hv e.symm), h1.block x hx]
  have hvb : ∀ x, ov.ownBlock = some x → w.heap.size ≤ x ∧ ∃ cur, W.heap[x]? = some (Obj.cells cur 47) := fun x hx => own_blk hA.row hx
  obtain ⟨hgal, cura, hca⟩ := own_blk h.row (b := ga) rfl
  have hgalt := (Array.getElem?_eq_some_iff.1 hca).1
  have hoga : ov.ownBlock ≠ some ga := fun e => by
    obtain ⟨_, cu, hcu⟩ := hvb ga e
    exact blk_ne hca hcu (by decide) rfl
  have hrow3 : W3.ownsRow w.heap.size 3 1 (.slice (some ⟨ga, 0, none⟩) N N) N (atC ats) := own_congr h.row fun x hx => by
    have : ga = x := Option.some.inj hx
    subst this
    exact key ga hgalt hoga
  have hsz3 : W.heap.size ≤ W3.heap.size := Nat.le_trans hsz hg.size
  have hb0 := h.bel.size
  have hgb : g' ≠ ga := fun e => by
    obtain ⟨_, cur, hc⟩ := own_blk hown (b := g') rfl
    obtain ⟨_, cur2, hc2⟩ := own_blk hrow3 (b := ga) rfl
    exact blk_ne hc hc2 (by decide) e
  obtain ⟨V, hV⟩ : ∃ V, W3.setCell ⟨ga, b, none⟩ (.int .i64 ((ats.getD b 0 + 1 : Nat) : Int)) = V := ⟨_, rfl⟩
  have hVo : ∀ x, x ≠ ga → V.heap[x]? = W3.heap[x]? := fun x hx => by rw [← hV]; exact heap_set_other _ _ _ _ _ hx
  have hVs : V.heap.size = W3.heap.size := by rw [← hV]; simp [World.setCell]
  have hbel : Below w.heap.size W V := by
    rw [← hV]
    refine Below.setCell (p := ⟨ga, b, none⟩) ?_ hgal _
    exact (h1.mono hb0).grown hg (Nat.le_trans hb0 hsz) (fun k hk => (hvb k hk).1)
  have hrow : V.ownsRow w.heap.size 47 3 (.slice (some ⟨g', 0, none⟩) (out.length + 1) c') (out.length + 1) (xs ++ [.string (bs f.1), .int .i64 f.2.1, .slice a n c]) := own_congr hown fun x hx => hVo x (by have : g' = x := Option.some.inj hx; omega)
  have hko : V.ownsRow W.heap.size 3 1 (.slice a n c) f.2.2.length (f.2.2.map mkI) := by
    refine own_congr ho fun x hx => ?_
    obtain ⟨h5, cur, hc⟩ := own_blk ho hx
    have hx1 := (Array.getElem?_eq_some_iff.1 hc).1
    rw [hVo x (by omega), hg.block x hx1 (fun e => by obtain ⟨_, cu, hcu⟩ := hvb x e.symm; have := (Array.getElem?_eq_some_iff.1 hcu).1; omega)]
  have hbl : b < L.length := by have := hbest.1; rw [remM_len] at this; exact this
  rw [hV]
  refine ⟨hrow3, h.bel.trans hbel, ⟨xs ++ [.string (bs f.1), .int .i64 f.2.1, .slice a n c], ?_, ?_⟩, ?_, by rw [List.length_set]; exact h.alen, ?_, by rw [List.length_append, List.length_singleton]; omega⟩
  · refine hA.snoc (w' := V) h.bel.size (Nat.le_refl _) hrow (fun x hx => (hrow.lt x hx).2) hko (fun x hx => (hko.lt x hx).2) (by omega) (fun x j hj hl => ?_)
    have hlie := hA.lie j x hj hl
    have hgx := hga j x hj hl
    obtain ⟨u, hu, hub⟩ := hl
    obtain ⟨qa, qn, qc, q0, q1, q2, q3⟩ := hA.val j hj
    rw [q2] at hu
    have hu' : Value.slice qa qn qc = u := Option.some.inj hu
    subst hu'
    obtain ⟨_, cur, hc⟩ := own_blk q3 hub
    rw [hVo x (by omega)]
    refine key x hlie.2 (fun e => ?_)
    obtain ⟨_, cu, hcu⟩ := hvb x e
    exact blk_ne hc hcu (by decide) rfl
  · intro j x hj hl
    rw [List.length_append, List.length_singleton] at hj
    have hxl := hA.row.1
    obtain ⟨u, hu, hub⟩ := hl
    by_cases e : j = out.length
    · subst e
      rw [List.getElem?_append_right (by omega), hxl, Nat.add_sub_cancel_left] at hu
      simp only [List.getElem?_cons_succ, List.getElem?_cons_zero, Option.some.injEq] at hu
      subst hu
      have := (hko.lt x hub).1
      omega
    · rw [List.getElem?_append_left (by omega)] at hu
      exact hga j x (by omega) ⟨u, hu, hub⟩
  · have h5 : V.ownsRow w.heap.size 3 1 (.slice (some ⟨ga, 0, none⟩) N N) N ((atC ats).set b (.int .i64 ((ats.getD b 0 + 1 : Nat) : Int))) := by rw [← hV]; exact own1_set hrow3 b _
    rw [atC_set] at h5
    exact h5
  · have he := h.eq
    rw [← he]
    obtain ⟨k, hk⟩ : ∃ k, NS - out.length = k + 1 := ⟨NS - out.length - 1, by omega⟩
    rw [hk, mrgM_step hbest, List.length_append, List.length_singleton, show NS - (out.length + 1) = k by omega, remM_step hbl (by rw [h.alen, hN]), hf]
    simp
theorem exec_lssO (W : World) (ρ : Operand → Value) (o : Oper) (x y : Operand) (ho : o.op = .binOp .lss 3 x y 3) (a b : Int) (r : Bool) (hx : ρ x = .int .i64 a) (hy : ρ y = .int .i64 b) (hr : decide (a < b) = r) : (execOp ρ o).run Try.prog W = .ok (.value (.bool r)) W := by
  subst hr
  unfold execOp
  simp only [ho, hx, hy, Sem.run_bind, Sem.run_pure, Result.andThen_ok]
  go_simp
theorem exec_lenS (W : World) (ρ : Operand → Value) (o : Oper) (x : Operand) (ho : o.op = .call { callee := .builtin .len, args := #[x], argTypes := #[26] }) (s : Option Addr) (n c : Nat) (hx : ρ x = .slice s n c) : (execOp ρ o).run Try.prog W = .ok (.value (.int .i64 (n : Int))) W := by
  unfold execOp
  simp only [ho, hx, resolve, invoke, builtin, Sem.run_bind, Sem.run_pure, Result.andThen_ok, List.map_toArray, List.map_cons, List.map_nil]
  go_simp
def slLen : Value → Nat
  | .slice _ n _ => n
  | _ => 0
end Go.Proofs.Ytcnjmjcbhelkhaa

namespace Go.Proofs.Ytcnjmjcbhelkhaa
open Go Go.RowKit
set_option linter.unusedVariables false
set_option maxRecDepth 100000
set_option linter.unusedSimpArgs false

/-! A hit's box. -/
theorem exec_allocFd (W : World) (ρ : Operand → Value) (o : Oper) (ho : o.op = .alloc 47) : (execOp ρ o).run Try.prog W = .ok (.value (.pointer (some ⟨W.heap.size, 0, none⟩))) (W.alloc (.cells #[.string ⟨#[]⟩, .int .i64 0, .slice none 0 0] 47)) := by
  unfold execOp
  simp only [ho, Sem.run_bind, Sem.run_pure, Result.andThen_ok]
  go_simp
/-- A hit's box, filled. -/
theorem box_fd (W : World) (s : ByteArray) (z : Int) (a : Option Addr) (n c : Nat) {V : World} (hV : (((W.alloc (.cells #[.string ⟨#[]⟩, .int .i64 0, .slice none 0 0] 47)).setCell ⟨W.heap.size, 0, none⟩ (.string s)).setCell ⟨W.heap.size, 1, none⟩ (.int .i64 z)).setCell ⟨W.heap.size, 2, none⟩ (.slice a n c) = V) :
    V.heap[W.heap.size]? = some (.cells #[.string s, .int .i64 z, .slice a n c] 47) ∧ Below W.heap.size W V ∧ V.heap.size = W.heap.size + 1 := by
  subst hV
  refine ⟨?_, ?_, by simp [World.setCell]⟩
  · have h := blk_setk (blk_setk (blk_setk (heap_alloc_new W (.cells #[.string ⟨#[]⟩, .int .i64 0, .slice none 0 0] 47)) 0 (.string s)) 1 (.int .i64 z)) 2 (.slice a n c)
    simpa using h
  · exact ((((Below.refl _ _).alloc (Nat.le_refl _) _).setCell (p := ⟨W.heap.size, 0, none⟩) (Nat.le_refl _) _).setCell (p := ⟨W.heap.size, 1, none⟩) (Nat.le_refl _) _).setCell (p := ⟨W.heap.size, 2, none⟩) (Nat.le_refl _) _
theorem news3 (W : World) (u0 u1 u2 : Value) (t : TypeId) : ∀ (j : Nat) (u : Value), [u0, u1, u2][j]? = some u → (W.alloc (.cells #[u0, u1, u2] t)).cell? ((⟨W.heap.size, 0, none⟩ : Addr).add j) = some u := fun j u h => World.news_of_block (heap_alloc_new W (.cells #[u0, u1, u2] t)) j u h
end Go.Proofs.Ytcnjmjcbhelkhaa
