import Derived.Test.YtbkedgpligcicaaBuildDictJ00
import Derived.Test.YtbkedgpligcicaaProg
import Derived.WalkLawsBesides
import Derived.WalkSpells
import Derived.BigQuiet
import Derived.Deep.QuietTactic
import Derived.BigRegion
import Derived.WalkKit
import Derived.Laws.StructEq
import Derived.Maps.Keyed
import Derived.DeepKeys4
import Derived.Carry
import Derived.RangeFuncLeaves
import Derived.RangeFuncNested
import Derived.RangeFuncBound
import Derived.RangeFuncCalls
import Derived.RangeFuncFrom
import Derived.Shelf.Abstract
import Derived.Shelf.RegionOpen
import Derived.OwnWalkIn
import Derived.TacticsInMore
import Derived.LoopNIn
import Derived.LoopIn
namespace Go.Proofs.Ytbkedgpligcicaa
open Go Go.RowKit
set_option linter.unusedVariables false

def ar0 : Ar := (0, 0, 0)
/-- A slice of arcs, a slice of states, as they lie in a world. -/
def HoldA (w : World) (a : Option Addr) (l : List Ar) : Prop :=
  l = [] ∨ ∃ b off, a = some ⟨b, off, none⟩ ∧ b < w.heap.size ∧ ∀ k, k < l.length → w.cell? ⟨b, off + k * 3, none⟩ = some (.int .i64 (l.getD k ar0).1) ∧ w.cell? ⟨b, off + k * 3 + 1, none⟩ = some (.int .i64 (l.getD k ar0).2.1) ∧ w.cell? ⟨b, off + k * 3 + 2, none⟩ = some (.int .i64 (l.getD k ar0).2.2)
theorem HoldA.keep {w w' : World} {a : Option Addr} {l : List Ar} (h : HoldA w a l) (hz : w.heap.size ≤ w'.heap.size) (hc : ∀ b off, a = some ⟨b, off, none⟩ → b < w.heap.size → w'.heap[b]? = w.heap[b]?) : HoldA w' a l := by
  rcases h with h | ⟨b, off, ha, hb, h⟩
  · exact Or.inl h
  · refine Or.inr ⟨b, off, ha, by omega, fun k hk => ?_⟩
    have e : ∀ j, w'.cell? ⟨b, j, none⟩ = w.cell? ⟨b, j, none⟩ := fun j => by simp [World.cell?, hc b off ha hb]
    rw [e, e, e]
    exact h k hk
theorem HoldA.below {w w' : World} {a : Option Addr} {l : List Ar} (h : HoldA w a l) (hb : Below w.heap.size w w') : HoldA w' a l := h.keep hb.size fun b off _ hl => hb.block b hl
def HoldS (w : World) (a : Option Addr) (S : List St) : Prop :=
  S = [] ∨ ∃ b off, a = some ⟨b, off, none⟩ ∧ b < w.heap.size ∧ ∀ i, i < S.length → w.cell? ⟨b, off + i * 2, none⟩ = some (.bool (S.getD i st0).1) ∧ ∃ ai ci, w.cell? ⟨b, off + i * 2 + 1, none⟩ = some (.slice ai (S.getD i st0).2.length ci) ∧ HoldA w ai (S.getD i st0).2
theorem HoldS.below {w w' : World} {a : Option Addr} {S : List St} (h : HoldS w a S) (hb : Below w.heap.size w w') : HoldS w' a S := by
  rcases h with h | ⟨b, off, ha, hbl, h⟩
  · exact Or.inl h
  · refine Or.inr ⟨b, off, ha, Nat.lt_of_lt_of_le hbl hb.size, fun i hi => ?_⟩
    obtain ⟨h1, ai, ci, h2, h3⟩ := h i hi
    exact ⟨(hb.cell (p := ⟨b, off + i * 2, none⟩) hbl).trans h1, ai, ci, (hb.cell (p := ⟨b, off + i * 2 + 1, none⟩) hbl).trans h2, h3.below hb⟩

theorem blkc {w : World} {b : Nat} {cs : Array Value} {t : TypeId} (h : w.heap[b]? = some (.cells cs t)) (k : Nat) : w.cell? ⟨b, k, none⟩ = cs[k]? := by
  simp [World.cell?, h]
theorem blko {w w' : World} {b : Nat} {o : Obj} (h : w.heap[b]? = some o) (hb : Below w.heap.size w w') : w'.heap[b]? = some o := (hb.block b (Array.getElem?_eq_some_iff.1 h).1).trans h
theorem box_two (w : World) (o1 o2 : Obj) : ((w.alloc o1).alloc o2).heap[w.heap.size]? = some o1 ∧ ((w.alloc o1).alloc o2).heap[w.heap.size + 1]? = some o2 := by
  refine ⟨?_, ?_⟩
  · rw [Below.heap_alloc _ _ _ (by simp)]; exact heap_alloc_new _ _
  · have := heap_alloc_new (w.alloc o1) o2
    rw [World.size_alloc] at this
    exact this
theorem take_all (l m : List Ar) (hl : l.length = m.length) (k : Nat) (hk : ∀ j, j < k → l.getD j ar0 = m.getD j ar0) (h : ¬ k < l.length) : l = m := by
  apply List.ext_getElem hl
  intro i h1 h2
  have := hk i (by omega)
  simpa [h1, h2] using this

def arV (p : Ar) : Value := .agg #[.int .i64 p.1, .int .i64 p.2.1, .int .i64 p.2.2]
theorem eqArc (w : World) (p r : Ar) : (Op.equalIn 10000 85 (.agg #[.int .i64 p.1, .int .i64 p.2.1, .int .i64 p.2.2]) (.agg #[.int .i64 r.1, .int .i64 r.2.1, .int .i64 r.2.2])).run Try.prog w = .ok (decide (p = r)) w := by
  obtain ⟨p0, p1, p2⟩ := p
  obtain ⟨r0, r1, r2⟩ := r
  go_simp
  by_cases h0 : p0 = r0 <;> by_cases h1 : p1 = r1 <;> by_cases h2 : p2 = r2 <;> simp [*]
theorem guardArc (w : World) (x y : Operand) (xs ys : Array Value) : (eqGuard .neq 85 x y (.agg xs) (.agg ys)).run Try.prog w = .ok () w := run_eqGuard_agg w .neq _ x y xs ys (by kernel_rfl)
set_option maxHeartbeats 2000000 in
set_option maxRecDepth 100000 in
theorem sameState_any (f1 f2 : Bool) (a1 a2 : Option Addr) (c1 c2 : Nat) (l m : List Ar) (w : World) (hn : l.length ≤ 1048576) (hm : m.length ≤ 1048576) (h1 : HoldA w a1 l) (h2 : HoldA w a2 m) (R : Bool) (hR : decide ((f1, l) = (f2, m)) = R) :
    Calls Try.prog 96 #[.agg #[.bool f1, .slice a1 l.length c1], .agg #[.bool f2, .slice a2 m.length c2]] w fun e w' => e = .returned (.bool R) ∧ Below w.heap.size w w' := by
  have HRR := hidd hR
  clear hR
  by_cases hq : f1 = f2 ∧ l.length = m.length
  · obtain ⟨rfl, hlm⟩ := hq
    generalize hln : l.length = n at *
    have hmn : m.length = n := hlm.symm
    rw [hmn]
    have HBa : Hid (Below w.heap.size w ((w.alloc (.cells #[.bool f1, .slice a1 n c1] 82)).alloc (.cells #[.bool f1, .slice a2 n c2] 82))) := ((Below.refl _ _).alloc (Nat.le_refl _) _).alloc (by simp) _
    have H1 := hidd (h1.below HBa.out)
    have H2 := hidd (h2.below HBa.out)
    have Hln := hidd hln
    have Hmn := hidd hmn
    clear h1 h2 hln hmn hlm hm
    have hneq : (f1 != f1) = false := by cases f1 <;> rfl
    go_enter Try.func96, Try.ntmps96
    go_wp2_with fail
    have Hbx := hidd (box_two w (.cells #[.bool f1, .slice a1 n c1] 82) (.cells #[.bool f1, .slice a2 n c2] 82))
    generalize (w.alloc (.cells #[.bool f1, .slice a1 n c1] 82)).alloc (.cells #[.bool f1, .slice a2 n c2] 82) = wa at *
    have e1 : wa.cell? ⟨w.heap.size, 1, none⟩ = some (.slice a1 n c1) := blkc Hbx.out.1 1
    have e2 : wa.cell? ⟨w.heap.size + 1, 1, none⟩ = some (.slice a2 n c2) := blkc Hbx.out.2 1
    go_loopw [5] (fun iv wr => ∃ k : Nat, k ≤ n ∧ iv = .int .i64 (k : Int) ∧ (∀ j, j < k → l.getD j ar0 = m.getD j ar0) ∧ ∃ q, wr = wa.drewN q) (fun iv _ => n - (intOf iv).toNat)
    case atStart => exact ⟨0, Nat.zero_le _, rfl, fun j hj => absurd hj (by omega), 0, rfl⟩
    case round =>
      obtain ⟨k, hk, rfl, heq, q, rfl⟩ := hrel
      have HE := hidd heq
      clear heq
      by_cases hlt : k < n
      · have hkz : (k : Int) < (n : Int) := by omega
        obtain ⟨b1, o1, rfl, hb1, hc1⟩ := H1.out.resolve_left (fun h => by have := Hln.out; rw [h] at this; simp at this; omega)
        obtain ⟨b2, o2, rfl, hb2, hc2⟩ := H2.out.resolve_left (fun h => by have := Hmn.out; rw [h] at this; simp at this; omega)
        obtain ⟨x0, x1, x2⟩ := hc1 k (by rw [Hln.out]; exact hlt)
        obtain ⟨y0, y1, y2⟩ := hc2 k (by rw [Hmn.out]; exact hlt)
        clear hc1 hc2
        obtain ⟨p, hp⟩ : ∃ p, l.getD k ar0 = p := ⟨_, rfl⟩
        obtain ⟨r, hr⟩ : ∃ r, m.getD k ar0 = r := ⟨_, rfl⟩
        rw [hp] at x0 x1 x2
        rw [hr] at y0 y1 y2
        have HP := hidd hp
        have HR := hidd hr
        clear hp hr
        obtain ⟨p0, p1, p2⟩ := p
        obtain ⟨r0, r1, r2⟩ := r
        dsimp only at x0 x1 x2 y0 y1 y2
        by_cases hpr : (p0, p1, p2) = (r0, r1, r2)
        · cases hpr
          have HE2 : Hid (∀ j, j < k + 1 → l.getD j ar0 = m.getD j ar0) := fun j hj => by
            by_cases hjk : j = k
            · subst hjk; rw [HP.out, HR.out]
            · exact HE.out j (by omega)
          go_wp2
          go_quiet (fail)
          go_wp2
          go_roundw
          case rel => exact ⟨k + 1, by omega, by go_num, HE2.out, _, rfl⟩
          case measure => simp [intOf]; omega
        · have HF : Hid (R = false) := by
            refine HRR.out.symm.trans (decide_eq_false ?_)
            refine fun h => hpr ?_
            have h' : l = m := (Prod.mk.inj h).2
            have e := HP.out
            rw [h', HR.out] at e
            exact e.symm
          have h3 : ¬ (p0 = r0 ∧ p1 = r1 ∧ p2 = r2) := fun h => hpr (by rw [h.1, h.2.1, h.2.2])
          clear hpr
          by_cases h0 : p0 = r0
          · by_cases h1 : p1 = r1
            · have h2 : ¬ p2 = r2 := fun h => h3 ⟨h0, h1, h⟩
              subst h0 h1
              clear h3
              go_wp2
              go_quiet (fail)
              go_wp2
              go_ret
              rw [HF.out]
              exact ⟨rfl, below_drewN (below_drewN HBa.out _) _⟩
            · subst h0
              clear h3
              go_wp2
              go_quiet (fail)
              go_wp2
              go_ret
              rw [HF.out]
              exact ⟨rfl, below_drewN (below_drewN HBa.out _) _⟩
          · clear h3
            go_wp2
            go_quiet (fail)
            go_wp2
            go_ret
            rw [HF.out]
            exact ⟨rfl, below_drewN (below_drewN HBa.out _) _⟩
      · have HF : Hid (R = true) := by
          refine HRR.out.symm.trans (decide_eq_true ?_)
          rw [take_all l m (by rw [Hln.out, Hmn.out]) k HE.out (by rw [Hln.out]; exact hlt)]
        have hkz : ¬ (k : Int) < (n : Int) := by omega
        go_wp2
        go_ret
        rw [HF.out]
        exact ⟨rfl, below_drewN HBa.out _⟩
  · have HF : Hid (R = false) := by
      refine HRR.out.symm.trans (decide_eq_false ?_)
      refine fun h => hq ?_
      have h' := Prod.mk.inj h
      exact ⟨h'.1, by rw [h'.2]⟩
    have HBa : Hid (Below w.heap.size w ((w.alloc (.cells #[.bool f1, .slice a1 l.length c1] 82)).alloc (.cells #[.bool f2, .slice a2 m.length c2] 82))) := ((Below.refl _ _).alloc (Nat.le_refl _) _).alloc (by simp) _
    by_cases hf : f1 = f2
    · subst hf
      have hneq : (f1 != f1) = false := by cases f1 <;> rfl
      have hln : ¬ l.length = m.length := fun h => hq ⟨rfl, h⟩
      have hlz : ((l.length : Int) != (m.length : Int)) = true := by simp; omega
      clear hq
      go_enter Try.func96, Try.ntmps96
      go_wp2
      go_ret
      rw [HF.out]
      exact ⟨rfl, HBa.out⟩
    · have hneq : (f1 != f2) = true := by cases f1 <;> cases f2 <;> simp_all
      clear hq
      go_enter Try.func96, Try.ntmps96
      go_wp2
      go_ret
      rw [HF.out]
      exact ⟨rfl, HBa.out⟩
end Go.Proofs.Ytbkedgpligcicaa

namespace Go.Proofs.Ytbkedgpligcicaa
open Go Go.RowKit
set_option linter.unusedVariables false

/-! Links as keys of a map. -/
def In64 (l : Ar) : Prop := (-9223372036854775808 ≤ l.1 ∧ l.1 ≤ 9223372036854775807) ∧ (-9223372036854775808 ≤ l.2.1 ∧ l.2.1 ≤ 9223372036854775807) ∧ (-9223372036854775808 ≤ l.2.2 ∧ l.2.2 ≤ 9223372036854775807)
theorem laidOutX : laidOutB Try.prog = true := by kernel_rfl
theorem linkLaw : WideMaps.KeyLaw Try.prog 120 := deep_law_laid laidOutX (m := 2) (by omega) (of_decide_eq_true (by kernel_rfl)) (by kernel_rfl) (by kernel_rfl)
theorem linkKeyed : Maps.Keyed Try.prog 120 := Maps.Keyed.of_law linkLaw
theorem linkCells : Try.prog.cellsOf 120 = 3 := by kernel_rfl
theorem intCells : Try.prog.cellsOf 3 = 1 := by kernel_rfl
theorem linkType : Try.prog.keyType 120 = true := by kernel_rfl
theorem linkKey (l : Ar) (h : In64 l) : ∃ kl, keyOf Try.prog 120 (arV l) = some kl := by
  obtain ⟨a, b, c⟩ := l
  obtain ⟨⟨h1, h2⟩, ⟨h3, h4⟩, ⟨h5, h6⟩⟩ := h
  have w1 : (Lit.int .i64 a).wf = true := WalkArith.wf_i64 (by dsimp only at *; omega)
  have w2 : (Lit.int .i64 b).wf = true := WalkArith.wf_i64 (by dsimp only at *; omega)
  have w3 : (Lit.int .i64 c).wf = true := WalkArith.wf_i64 (by dsimp only at *; omega)
  obtain ⟨m, hm⟩ : ∃ m, Try.prog.types.size = m + 1 := ⟨Try.prog.types.size - 1, by kernel_rfl⟩
  have hf : (arV (a, b, c)).formed Try.prog 120 = true := by simp [arV, Value.formed, Try.underlying120, linkCells]
  have hk : Try.prog.keyLits (Try.prog.types.size + 1) 120 (arV (a, b, c)).cells.toList = some [.int .i64 a, .int .i64 b, .int .i64 c] := by
    rw [hm]
    simp [Program.keyLits, Try.underlying120, Try.underlying3, linkCells, intCells, arV, Value.cells, List.range, List.range.loop, w1, w2, w3]
  refine ⟨.string (keyBytes [.int .i64 a, .int .i64 b, .int .i64 c]), ?_⟩
  unfold keyOf
  rw [Try.underlying120]
  simp only [linkType, hf, Bool.and_self, if_true, hk, Option.map_some]
theorem arV_inj {l m : Ar} (h : arV l = arV m) : l = m := by
  obtain ⟨a, b, c⟩ := l
  obtain ⟨x, y, z⟩ := m
  simpa [arV] using h

/-- A map of links, in the order in which they came. -/
def MapAt (w : World) (mb : Nat) (L : List Ar) : Prop := ∃ es clock, w.heap[mb]? = some (.map es clock) ∧ es.toList.map (fun e => (e.key, e.val)) = L.mapIdx fun (j : Nat) l => (arV l, Value.int .i64 ((j + 1 : Nat) : Int))
theorem MapAt.keep {w w' : World} {mb : Nat} {L : List Ar} (h : MapAt w mb L) (hb : w'.heap[mb]? = w.heap[mb]?) : MapAt w' mb L := by
  obtain ⟨es, clock, h1, h2⟩ := h
  exact ⟨es, clock, hb.trans h1, h2⟩
theorem mapAt_new (w : World) : MapAt (w.alloc (.map #[] 0)) w.heap.size [] := ⟨#[], 0, heap_alloc_new w _, rfl⟩
theorem MapAt.find {w : World} {mb : Nat} {L : List Ar} (h : MapAt w mb L) (hL : ∀ l ∈ L, In64 l) (l : Ar) (hl : In64 l) :
    ∃ es clock, w.heap[mb]? = some (.map es clock) ∧ es.toList.map (fun e => (e.key, e.val)) = L.mapIdx (fun (j : Nat) l => (arV l, Value.int .i64 ((j + 1 : Nat) : Int))) ∧
      ((l ∉ L ∧ (Instr.findKey 120 (arV l) es.toList).run Try.prog w = .ok none w) ∨ ∃ j : Nat, L[j]? = some l ∧ (Instr.findKey 120 (arV l) es.toList).run Try.prog w = .ok (some (j, .int .i64 ((j + 1 : Nat) : Int))) w) := by
  obtain ⟨es, clock, h1, h2⟩ := h
  refine ⟨es, clock, h1, h2, ?_⟩
  obtain ⟨kl, hkl⟩ := linkKey l hl
  have at_ : ∀ (j : Nat) (e : MapEntry), es.toList[j]? = some e → ∃ l', L[j]? = some l' ∧ e.key = arV l' ∧ e.val = .int .i64 ((j + 1 : Nat) : Int) := by
    intro j e he
    have h3 : (es.toList.map (fun e => (e.key, e.val)))[j]? = some (e.key, e.val) := by rw [List.getElem?_map, he]; rfl
    rw [h2, List.getElem?_mapIdx] at h3
    cases hx : L[j]? with
    | none => rw [hx] at h3; cases h3
    | some l' =>
      rw [hx] at h3
      simp only [Option.map_some, Option.some.injEq, Prod.mk.injEq] at h3
      exact ⟨l', rfl, h3.1.symm, h3.2.symm⟩
  have hkeys : ∀ e ∈ es.toList, ∃ q, keyOf Try.prog 120 e.key = some q := by
    intro e he
    obtain ⟨j, hj⟩ := List.mem_iff_getElem?.1 he
    obtain ⟨l', h4, h5, _⟩ := at_ j e hj
    rw [h5]
    exact linkKey l' (hL l' (List.mem_of_getElem? h4))
  rcases linkKeyed.find w hkl es.toList hkeys with ⟨h3, h4⟩ | ⟨j, e, h3, h4, h5⟩
  · refine Or.inl ⟨?_, h3⟩
    intro hm
    obtain ⟨j, hj⟩ := List.mem_iff_getElem?.1 hm
    have h6 : (es.toList.map (fun e => (e.key, e.val)))[j]? = some (arV l, .int .i64 ((j + 1 : Nat) : Int)) := by rw [h2, List.getElem?_mapIdx, hj]; rfl
    rw [List.getElem?_map] at h6
    cases hx : es.toList[j]? with
    | none => rw [hx] at h6; cases h6
    | some e =>
      rw [hx] at h6
      simp only [Option.map_some, Option.some.injEq, Prod.mk.injEq] at h6
      exact h4 e (List.mem_of_getElem? hx) h6.1
  · obtain ⟨l', h6, h7, h8⟩ := at_ j e h4
    have : l' = l := arV_inj (h7.symm.trans h5)
    subst this
    exact Or.inr ⟨j, h6, by rw [h3, h8]⟩
theorem MapAt.look {w : World} {mb : Nat} {L : List Ar} (h : MapAt w mb L) (hL : ∀ l ∈ L, In64 l) (l : Ar) (hl : In64 l) :
    (l ∉ L ∧ (Instr.lookup 114 (.map (some mb)) (arV l) true).run Try.prog w = .ok (.tuple #[.int .i64 0, .bool false]) w) ∨
    ∃ j : Nat, L[j]? = some l ∧ (Instr.lookup 114 (.map (some mb)) (arV l) true).run Try.prog w = .ok (.tuple #[.int .i64 ((j + 1 : Nat) : Int), .bool true]) w := by
  obtain ⟨kl, hkl⟩ := linkKey l hl
  obtain ⟨es, clock, h1, _, h3⟩ := h.find hL l hl
  rcases h3 with ⟨h4, h5⟩ | ⟨j, h4, h5⟩
  · exact Or.inl ⟨h4, by simp [Instr.lookup, run_underlying Try.underlying114, MapKept.run_getObj_map h1, linkKeyed.check w _ hkl, h5, Result.andThen]⟩
  · exact Or.inr ⟨j, h4, by simp [Instr.lookup, run_underlying Try.underlying114, MapKept.run_getObj_map h1, linkKeyed.check w _ hkl, h5, Result.andThen]⟩
theorem MapAt.put {w : World} {mb : Nat} {L : List Ar} (h : MapAt w mb L) (hL : ∀ l ∈ L, In64 l) (l : Ar) (hl : In64 l) (hn : l ∉ L) :
    ∃ w', (Instr.mapUpdate 114 (.map (some mb)) (arV l) (.int .i64 ((L.length + 1 : Nat) : Int))).run Try.prog w = .ok () w' ∧ MapAt w' mb (L ++ [l]) ∧ w.grownBy w' (some mb) := by
  obtain ⟨kl, hkl⟩ := linkKey l hl
  obtain ⟨es, clock, h1, h2, h3⟩ := h.find hL l hl
  rcases h3 with ⟨h4, h5⟩ | ⟨j, h4, h5⟩
  · refine ⟨ChangeMaps.setBlock w mb (.map (es.push ⟨arV l, .int .i64 ((L.length + 1 : Nat) : Int), clock⟩) (clock + 1)), ?_, ⟨_, _, ChangeMaps.heap_setBlock_same h1 _, ?_⟩, ⟨rfl, rfl, rfl, by simp [ChangeMaps.setBlock], fun i _ hi => ChangeMaps.heap_setBlock_other h1 _ (fun e => hi (by rw [e]))⟩⟩
    · simp [Instr.mapUpdate, run_underlying Try.underlying114, MapKept.run_getObj_map h1, linkKeyed.check w false hkl, h5, MapKept.run_setObj_map _ h1, Result.andThen, ChangeMaps.setBlock]
    · rw [Array.toList_push, List.map_append, h2, List.mapIdx_append]
      simp
  · exact absurd (List.mem_of_getElem? h4) hn
end Go.Proofs.Ytbkedgpligcicaa

namespace Go.Proofs.Ytbkedgpligcicaa
open Go Go.RowKit
set_option linter.unusedVariables false

def nI (x : Nat) : Value := .int .i64 (x : Int)
theorem nI_inj {l m : Nat} (h : nI l = nI m) : l = m := by
  simp only [nI, Value.int.injEq, true_and] at h
  omega
theorem intKeyed : Maps.Keyed Try.prog 3 := Maps.int_keyed Try.underlying3
theorem intKey (l : Nat) (h : l ≤ 9223372036854775807) : ∃ kl, keyOf Try.prog 3 (nI l) = some kl :=
  ⟨_, Maps.keyOf_int_mk Try.underlying3 (WalkArith.wf_i64 (by omega))⟩

/-- A map of numbers to their places, in the order in which they came. -/
def PMap (w : World) (mb : Nat) (L : List Nat) : Prop := ∃ es clock, w.heap[mb]? = some (.map es clock) ∧ es.toList.map (fun e => (e.key, e.val)) = L.mapIdx fun (j : Nat) l => (nI l, Value.int .i64 (j : Int))
theorem PMap.keep {w w' : World} {mb : Nat} {L : List Nat} (h : PMap w mb L) (hb : w'.heap[mb]? = w.heap[mb]?) : PMap w' mb L := by
  obtain ⟨es, clock, h1, h2⟩ := h
  exact ⟨es, clock, hb.trans h1, h2⟩
theorem pMap_new (w : World) : PMap (w.alloc (.map #[] 0)) w.heap.size [] := ⟨#[], 0, heap_alloc_new w _, rfl⟩
theorem PMap.find {w : World} {mb : Nat} {L : List Nat} (h : PMap w mb L) (hL : ∀ l ∈ L, l ≤ 9223372036854775807) (l : Nat) (hl : l ≤ 9223372036854775807) :
    ∃ es clock, w.heap[mb]? = some (.map es clock) ∧ es.toList.map (fun e => (e.key, e.val)) = L.mapIdx (fun (j : Nat) l => (nI l, Value.int .i64 (j : Int))) ∧
      ((l ∉ L ∧ (Instr.findKey 3 (nI l) es.toList).run Try.prog w = .ok none w) ∨ ∃ j : Nat, L[j]? = some l ∧ (Instr.findKey 3 (nI l) es.toList).run Try.prog w = .ok (some (j, .int .i64 (j : Int))) w) := by
  obtain ⟨es, clock, h1, h2⟩ := h
  refine ⟨es, clock, h1, h2, ?_⟩
  obtain ⟨kl, hkl⟩ := intKey l hl
  have at_ : ∀ (j : Nat) (e : MapEntry), es.toList[j]? = some e → ∃ l', L[j]? = some l' ∧ e.key = nI l' ∧ e.val = .int .i64 (j : Int) := by
    intro j e he
    have h3 : (es.toList.map (fun e => (e.key, e.val)))[j]? = some (e.key, e.val) := by rw [List.getElem?_map, he]; rfl
    rw [h2, List.getElem?_mapIdx] at h3
    cases hx : L[j]? with
    | none => rw [hx] at h3; cases h3
    | some l' =>
      rw [hx] at h3
      simp only [Option.map_some, Option.some.injEq, Prod.mk.injEq] at h3
      exact ⟨l', rfl, h3.1.symm, h3.2.symm⟩
  have hkeys : ∀ e ∈ es.toList, ∃ q, keyOf Try.prog 3 e.key = some q := by
    intro e he
    obtain ⟨j, hj⟩ := List.mem_iff_getElem?.1 he
    obtain ⟨l', h4, h5, _⟩ := at_ j e hj
    rw [h5]
    exact intKey l' (hL l' (List.mem_of_getElem? h4))
  rcases intKeyed.find w hkl es.toList hkeys with ⟨h3, h4⟩ | ⟨j, e, h3, h4, h5⟩
  · refine Or.inl ⟨?_, h3⟩
    intro hm
    obtain ⟨j, hj⟩ := List.mem_iff_getElem?.1 hm
    have h6 : (es.toList.map (fun e => (e.key, e.val)))[j]? = some (nI l, .int .i64 (j : Int)) := by rw [h2, List.getElem?_mapIdx, hj]; rfl
    rw [List.getElem?_map] at h6
    cases hx : es.toList[j]? with
    | none => rw [hx] at h6; cases h6
    | some e =>
      rw [hx] at h6
      simp only [Option.map_some, Option.some.injEq, Prod.mk.injEq] at h6
      exact h4 e (List.mem_of_getElem? hx) h6.1
  · obtain ⟨l', h6, h7, h8⟩ := at_ j e h4
    have : l' = l := nI_inj (h7.symm.trans h5)
    subst this
    exact Or.inr ⟨j, h6, by rw [h3, h8]⟩
theorem PMap.look {w : World} {mb : Nat} {L : List Nat} (h : PMap w mb L) (hL : ∀ l ∈ L, l ≤ 9223372036854775807) (l : Nat) (hl : l ≤ 9223372036854775807) :
    (l ∉ L ∧ (Instr.lookup 118 (.map (some mb)) (nI l) true).run Try.prog w = .ok (.tuple #[.int .i64 0, .bool false]) w) ∨
    ∃ j : Nat, L[j]? = some l ∧ (Instr.lookup 118 (.map (some mb)) (nI l) true).run Try.prog w = .ok (.tuple #[.int .i64 (j : Int), .bool true]) w := by
  obtain ⟨kl, hkl⟩ := intKey l hl
  obtain ⟨es, clock, h1, _, h3⟩ := h.find hL l hl
  rcases h3 with ⟨h4, h5⟩ | ⟨j, h4, h5⟩
  · exact Or.inl ⟨h4, by simp [Instr.lookup, run_underlying Try.underlying118, MapKept.run_getObj_map h1, intKeyed.check w _ hkl, h5, Result.andThen]⟩
  · exact Or.inr ⟨j, h4, by simp [Instr.lookup, run_underlying Try.underlying118, MapKept.run_getObj_map h1, intKeyed.check w _ hkl, h5, Result.andThen]⟩
theorem PMap.put {w : World} {mb : Nat} {L : List Nat} (h : PMap w mb L) (hL : ∀ l ∈ L, l ≤ 9223372036854775807) (l : Nat) (hl : l ≤ 9223372036854775807) (hn : l ∉ L) :
    ∃ w', (Instr.mapUpdate 118 (.map (some mb)) (nI l) (.int .i64 (L.length : Int))).run Try.prog w = .ok () w' ∧ PMap w' mb (L ++ [l]) ∧ w.grownBy w' (some mb) := by
  obtain ⟨kl, hkl⟩ := intKey l hl
  obtain ⟨es, clock, h1, h2, h3⟩ := h.find hL l hl
  rcases h3 with ⟨h4, h5⟩ | ⟨j, h4, h5⟩
  · refine ⟨ChangeMaps.setBlock w mb (.map (es.push ⟨nI l, .int .i64 (L.length : Int), clock⟩) (clock + 1)), ?_, ⟨_, _, ChangeMaps.heap_setBlock_same h1 _, ?_⟩, ⟨rfl, rfl, rfl, by simp [ChangeMaps.setBlock], fun i _ hi => ChangeMaps.heap_setBlock_other h1 _ (fun e => hi (by rw [e]))⟩⟩
    · simp [Instr.mapUpdate, run_underlying Try.underlying118, MapKept.run_getObj_map h1, intKeyed.check w false hkl, h5, MapKept.run_setObj_map _ h1, Result.andThen, ChangeMaps.setBlock]
    · rw [Array.toList_push, List.map_append, h2, List.mapIdx_append]
      simp
  · exact absurd (List.mem_of_getElem? h4) hn
end Go.Proofs.Ytbkedgpligcicaa

namespace Go.Proofs.Ytbkedgpligcicaa
open Go
set_option linter.unusedVariables false

/-! The tally: of each state how many endings it has, how long they are. -/
def valE (E : List Nat) (j : Nat) : Nat := E.getD j 0
structure TalOK (S : List St) (E G : List Nat) : Prop where
  lenE : E.length = S.length
  lenG : G.length = S.length
  ends : ∀ i, i < S.length → 0 < valE E i → valE E i = (if finAt S i then 1 else 0) + sumE (valE E) (arcsAt S i)
  most : ∀ i, i < S.length → 0 < valE E i → valE E i ≤ 4096 ∧ valE G i ≤ 64
  next : ∀ i, i < S.length → 0 < valE E i → ∀ a ∈ arcsAt S i, 0 < valE E a.2.1.toNat ∧ valE G a.2.1.toNat + 1 ≤ valE G i
structure Sane (S : List St) (e g : Nat → Nat) : Prop where
  ends : ∀ i, i < S.length → e i = (if finAt S i then 1 else 0) + sumE e (arcsAt S i)
  least : ∀ i, i < S.length → 1 ≤ e i
  most : ∀ i, i < S.length → e i ≤ 4096
  long : ∀ i, i < S.length → ∀ a ∈ arcsAt S i, g a.2.1.toNat + 1 ≤ g i
  deep : ∀ i, i < S.length → g i ≤ 64
def Agree (S : List St) (E G : List Nat) (e g : Nat → Nat) : Prop := ∀ i, i < S.length → 0 < valE E i → valE E i = e i ∧ valE G i ≤ g i
theorem valE_set (E : List Nat) (i x j : Nat) (hi : i < E.length) : valE (E.set i x) j = if j = i then x else valE E j := by
  unfold valE
  rw [List.getD_eq_getElem?_getD, List.getD_eq_getElem?_getD, List.getElem?_set]
  by_cases h : j = i
  · subst h; simp [hi]
  · rw [if_neg h, if_neg (fun e => h e.symm)]
theorem sumE_congr {e e' : Nat → Nat} {l : List Ar} (h : ∀ a ∈ l, e a.2.1.toNat = e' a.2.1.toNat) : sumE e l = sumE e' l := by
  unfold sumE
  rw [List.map_congr_left h]
theorem sumE_take {e : Nat → Nat} {l : List Ar} {k : Nat} {a : Ar} (h : l[k]? = some a) : sumE e (l.take (k + 1)) = sumE e (l.take k) + e a.2.1.toNat := by
  obtain ⟨hk, rfl⟩ := List.getElem?_eq_some_iff.1 h
  rw [sumE, List.take_succ_eq_append_getElem hk, List.map_append, List.sum_append]
  simp [sumE]
/-- What one state is given. -/
theorem TalOK.set {S : List St} {E G : List Nat} (h : TalOK S E G) {i en lo : Nat} (hi : i < S.length) (hen : en = (if finAt S i then 1 else 0) + sumE (valE E) (arcsAt S i))
    (hpos : ∀ a ∈ arcsAt S i, 0 < valE E a.2.1.toNat ∧ valE G a.2.1.toNat + 1 ≤ lo) (hlo : ∀ m, (∀ a ∈ arcsAt S i, valE G a.2.1.toNat + 1 ≤ m) → lo ≤ m) (h1 : en ≤ 4096) (h2 : lo ≤ 64) : TalOK S (E.set i en) (G.set i lo) := by
  have vE := fun j => valE_set E i en j (by rw [h.lenE]; exact hi)
  have vG := fun j => valE_set G i lo j (by rw [h.lenG]; exact hi)
  by_cases h0 : 0 < valE E i
  · have hsame : en = valE E i := hen.trans (h.ends i hi h0).symm
    have hlo' : lo ≤ valE G i := hlo _ fun a ha => (h.next i hi h0 a ha).2
    have vE' : ∀ j, valE (E.set i en) j = valE E j := by
      intro j
      rw [vE]
      by_cases hj : j = i
      · rw [if_pos hj, hj, hsame]
      · rw [if_neg hj]
    have hno : ∀ a ∈ arcsAt S i, a.2.1.toNat ≠ i := fun a ha he => by have := (h.next i hi h0 a ha).2; rw [he] at this; omega
    refine ⟨by simpa using h.lenE, by simpa using h.lenG, fun j hj hp => ?_, fun j hj hp => ?_, fun j hj hp a ha => ?_⟩
    · rw [vE'] at hp ⊢
      rw [h.ends j hj hp, sumE_congr (fun a _ => vE' _)]
    · rw [vE'] at hp ⊢
      refine ⟨(h.most j hj hp).1, ?_⟩
      rw [vG]
      split
      · exact h2
      · exact (h.most j hj hp).2
    · rw [vE'] at hp ⊢
      have hn := h.next j hj hp a ha
      refine ⟨hn.1, ?_⟩
      rw [vG, vG]
      by_cases hji : j = i
      · subst hji
        rw [if_pos rfl, if_neg (hno a ha)]
        exact (hpos a ha).2
      · rw [if_neg hji]
        split
        · rename_i ht; rw [ht] at hn; omega
        · exact hn.2
  · have h0' : valE E i = 0 := by omega
    have hne : ∀ j, j < S.length → 0 < valE E j → ∀ a ∈ arcsAt S j, a.2.1.toNat ≠ i := fun j hj hp a ha he => by have := (h.next j hj hp a ha).1; rw [he] at this; omega
    have hno : ∀ a ∈ arcsAt S i, a.2.1.toNat ≠ i := fun a ha he => by have := (hpos a ha).1; rw [he] at this; omega
    refine ⟨by simpa using h.lenE, by simpa using h.lenG, fun j hj hp => ?_, fun j hj hp => ?_, fun j hj hp a ha => ?_⟩
    · by_cases hji : j = i
      · subst hji
        have e1 : sumE (valE (E.set j en)) (arcsAt S j) = sumE (valE E) (arcsAt S j) := sumE_congr fun a ha => by rw [vE, if_neg (hno a ha)]
        rw [e1, vE, if_pos rfl]
        exact hen
      · rw [vE, if_neg hji] at hp ⊢
        rw [h.ends j hj hp]
        congr 1
        exact sumE_congr fun a ha => by rw [vE, if_neg (hne j hj hp a ha)]
    · by_cases hji : j = i
      · subst hji; rw [vE, vG, if_pos rfl, if_pos rfl]; exact ⟨h1, h2⟩
      · rw [vE, if_neg hji] at hp ⊢
        rw [vG, if_neg hji]
        exact h.most j hj hp
    · by_cases hji : j = i
      · subst hji
        rw [vE, vG, vG, if_neg (hno a ha), if_neg (hno a ha), if_pos rfl]
        exact hpos a ha
      · rw [vE, if_neg hji] at hp
        rw [vE, vG, vG, if_neg (hne j hj hp a ha), if_neg (hne j hj hp a ha), if_neg hji]
        exact h.next j hj hp a ha
/-- What a way through all states has counted. -/
theorem TalOK.ends_all {S : List St} {E G : List Nat} (h : TalOK S E G) (h0 : 0 < valE E 0) (hn : 0 < S.length) (hto : ∀ i, i < S.length → ∀ a ∈ arcsAt S i, a.2.1.toNat < S.length) (hb : IsBfs (toAt S) 0 (List.range S.length)) : ∀ i, i < S.length → 0 < valE E i := by
  intro i hi
  have := hb.all (fun x => x < S.length ∧ 0 < valE E x) ⟨hn, h0⟩ (fun x hx y hy => by
    obtain ⟨a, ha, rfl⟩ := List.mem_map.1 hy
    exact ⟨hto x hx.1 a ha, (h.next x hx.1 hx.2 a ha).1⟩) i (by simp; exact hi)
  exact this.2
theorem IsDict.sane {c : Int} {S : List St} {ts : List Tx} (h : IsDict (c, S) ts) (hne : ts ≠ []) : Sane S (fun i => (lang S i).length) (fun i => maxT (lang S i)) := by
  have hc := h.checks hne
  refine ⟨hc.ends, hc.least, ?_, hc.long, hc.deep⟩
  obtain ⟨hg, ord, hb, hlen, hd⟩ := h
  unfold dictOf at hd
  obtain ⟨_, hS⟩ := Prod.mk.inj hd
  intro i hi
  have hi' : i < ord.length := by rw [hS, List.length_map] at hi; exact hi
  have hway : ∀ L ∈ ord, OnWay ts L := hb.all (OnWay ts) ⟨hg.1, hne, Nat.le_refl _, fun t ht => (hg.2.2 t ht).2⟩ (fun x hx => hx.next)
  have hw := hway ord[i] (List.getElem_mem hi')
  have := langF_of hb 65 i ord[i] (List.getElem?_eq_getElem hi') hw.1 (fun t ht => by have := hw.2.2.2 t ht; omega)
  rw [← hS] at this
  show (lang S i).length ≤ 4096
  rw [lang, this]
  exact Nat.le_trans hw.2.2.1 hg.2.1
end Go.Proofs.Ytbkedgpligcicaa

namespace Go.Proofs.Ytbkedgpligcicaa
open Go
set_option linter.unusedVariables false

/-! Chains of links. -/
abbrev Lk := Int × Int
def lkOf (a : Ar) : Lk := (a.1, a.2.1)
def ChainIs (L : List Ar) : List Lk → Nat → Prop
  | [], n => n = 0
  | p :: t, n => ∃ m r, n = m + 1 ∧ ChainIs L t r ∧ L[m]? = some (p.1, p.2, (r : Int))
theorem ChainIs.mono {L L' : List Ar} (h : L <+: L') : ∀ {l : List Lk} {n : Nat}, ChainIs L l n → ChainIs L' l n
  | [], n, hc => hc
  | p :: t, n, ⟨m, r, h1, h2, h3⟩ => by
    refine ⟨m, r, h1, ChainIs.mono h h2, ?_⟩
    obtain ⟨q, rfl⟩ := h
    rw [List.getElem?_append_left (List.getElem?_eq_some_iff.1 h3).1]
    exact h3
theorem ChainIs.le {L : List Ar} : ∀ {l : List Lk} {n : Nat}, ChainIs L l n → n ≤ L.length
  | [], n, hc => by cases hc; exact Nat.zero_le _
  | p :: t, n, ⟨m, r, h1, h2, h3⟩ => by
    have := (List.getElem?_eq_some_iff.1 h3).1
    omega
theorem ChainIs.fn {L : List Ar} (hn : L.Nodup) : ∀ {l : List Lk} {n n' : Nat}, ChainIs L l n → ChainIs L l n' → n = n'
  | [], n, n', h, h' => by cases h; cases h'; rfl
  | p :: t, n, n', ⟨m, r, h1, h2, h3⟩, ⟨m', r', h1', h2', h3'⟩ => by
    have hr := ChainIs.fn hn h2 h2'
    subst hr
    have := (List.getElem?_inj (List.getElem?_eq_some_iff.1 h3).1 hn).1 (h3.trans h3'.symm)
    omega
theorem ChainIs.inj {L : List Ar} : ∀ {l l' : List Lk} {n : Nat}, ChainIs L l n → ChainIs L l' n → l = l'
  | [], [], n, _, _ => rfl
  | [], p :: t, n, h, ⟨m, r, h1, _⟩ => by cases h; omega
  | p :: t, [], n, ⟨m, r, h1, _⟩, h => by cases h; omega
  | p :: t, p' :: t', n, ⟨m, r, h1, h2, h3⟩, ⟨m', r', h1', h2', h3'⟩ => by
    have e : m = m' := by omega
    subst e
    rw [h3] at h3'
    simp only [Option.some.injEq, Prod.mk.injEq] at h3'
    obtain ⟨e1, e2, e3⟩ := h3'
    have er : r = r' := by omega
    subst er
    rw [ChainIs.inj h2 h2']
    congr 1
    exact Prod.ext e1 e2
/-- What allDiffer tells. -/
def lks (S : List St) (i : Nat) : List Lk := (arcsAt S i).map lkOf
def DiffP (S : List St) (n : Nat) : Prop := ∀ i j, i < n → j < n → finAt S i = finAt S j → lks S i = lks S j → i = j
theorem DiffP.snoc {S : List St} {n : Nat} (h : DiffP S n) (h2 : ∀ i, i < n → ¬ (finAt S i = finAt S n ∧ lks S i = lks S n)) : DiffP S (n + 1) := by
  intro i j hi hj h3 h4
  by_cases h5 : i = n
  · by_cases h6 : j = n
    · omega
    · subst h5; exact absurd ⟨h3.symm, h4.symm⟩ (h2 j (by omega))
  · by_cases h6 : j = n
    · subst h6; exact absurd ⟨h3, h4⟩ (h2 i (by omega))
    · exact h i j (by omega) (by omega) h3 h4
/-- The marks of what was seen. -/
def frz (n : Nat) (f : Bool) : Nat := 2 * n + (if f then 1 else 0)
theorem frz_inj {n m : Nat} {f g : Bool} (h : frz n f = frz m g) : n = m ∧ f = g := by
  cases f <;> cases g <;> simp [frz] at h ⊢ <;> omega
def SeenOK (S : List St) (L : List Ar) (k : Nat) (Z : List Bool) : Prop := ∀ x, Z.getD x false = true ↔ ∃ i n, i < k ∧ ChainIs L (lks S i) n ∧ x = frz n (finAt S i)
def AllIn (S : List St) (L : List Ar) (k : Nat) : Prop := ∀ i, i < k → ∃ n, ChainIs L (lks S i) n
theorem SeenOK.mono {S : List St} {L L' : List Ar} {k : Nat} {Z : List Bool} (h : SeenOK S L k Z) (ha : AllIn S L k) (hp : L <+: L') (hn : L'.Nodup) : SeenOK S L' k Z := by
  intro x
  rw [h x]
  constructor
  · rintro ⟨i, n, h1, h2, h3⟩; exact ⟨i, n, h1, h2.mono hp, h3⟩
  · rintro ⟨i, n, h1, h2, h3⟩
    obtain ⟨m, hm⟩ := ha i h1
    have := ChainIs.fn hn (hm.mono hp) h2
    subst this
    exact ⟨i, m, h1, hm, h3⟩
theorem SeenOK.hit {S : List St} {L : List Ar} {k n : Nat} {Z : List Bool} (h : SeenOK S L k Z) (hc : ChainIs L (lks S k) n) (hz : Z.getD (frz n (finAt S k)) false = true) : ∃ i, i < k ∧ finAt S i = finAt S k ∧ lks S i = lks S k := by
  obtain ⟨i, m, h1, h2, h3⟩ := (h _).1 hz
  obtain ⟨rfl, e⟩ := frz_inj h3
  exact ⟨i, h1, e.symm, h2.inj hc⟩
theorem SeenOK.miss {S : List St} {L : List Ar} {k n : Nat} {Z : List Bool} (h : SeenOK S L k Z) (hL : L.Nodup) (ha : AllIn S L k) (hc : ChainIs L (lks S k) n) (hz : ¬ Z.getD (frz n (finAt S k)) false = true) : ∀ i, i < k → ¬ (finAt S i = finAt S k ∧ lks S i = lks S k) := by
  rintro i hi ⟨h1, h2⟩
  obtain ⟨m, hm⟩ := ha i hi
  rw [h2] at hm
  have := ChainIs.fn hL hm hc
  subst this
  exact hz ((h _).2 ⟨i, m, hi, by rw [h2]; exact hm, by rw [h1]⟩)
theorem SeenOK.set {S : List St} {L : List Ar} {k n : Nat} {Z : List Bool} (h : SeenOK S L k Z) (hL : L.Nodup) (hc : ChainIs L (lks S k) n) (hl : frz n (finAt S k) < Z.length) : SeenOK S L (k + 1) (Z.set (frz n (finAt S k)) true) := by
  intro x
  have e : (Z.set (frz n (finAt S k)) true).getD x false = if x = frz n (finAt S k) then true else Z.getD x false := by
    by_cases hx : x = frz n (finAt S k)
    · subst hx; simp [hl]
    · rw [if_neg hx]
      rw [List.getD_eq_getElem?_getD, List.getD_eq_getElem?_getD, List.getElem?_set, if_neg (fun e : frz n (finAt S k) = x => hx e.symm)]
  rw [e]
  by_cases hx : x = frz n (finAt S k)
  · rw [if_pos hx]
    exact ⟨fun _ => ⟨k, n, by omega, hc, hx⟩, fun _ => rfl⟩
  · rw [if_neg hx, h x]
    constructor
    · rintro ⟨i, m, h1, h2, h3⟩; exact ⟨i, m, by omega, h2, h3⟩
    · rintro ⟨i, m, h1, h2, h3⟩
      by_cases hi : i = k
      · subst hi
        have := ChainIs.fn hL h2 hc
        subst this
        exact absurd h3 hx
      · exact ⟨i, m, by omega, h2, h3⟩
theorem AllIn.snoc {S : List St} {L L' : List Ar} {k n : Nat} (h : AllIn S L k) (hp : L <+: L') (hc : ChainIs L' (lks S k) n) : AllIn S L' (k + 1) := by
  intro i hi
  by_cases hk : i = k
  · subst hk; exact ⟨n, hc⟩
  · obtain ⟨m, hm⟩ := h i (by omega)
    exact ⟨m, hm.mono hp⟩
theorem seen_new (S : List St) (m : Nat) : SeenOK S [] 0 (List.replicate m false) := by
  intro x
  constructor
  · intro h
    rw [List.getD_eq_getElem?_getD, List.getElem?_replicate] at h
    by_cases hx : x < m
    · simp [hx] at h
    · simp [hx] at h
  · rintro ⟨i, n, h, _⟩; omega
end Go.Proofs.Ytbkedgpligcicaa

namespace Go.Proofs.Ytbkedgpligcicaa
open Go
set_option linter.unusedVariables false

/-! Frozen states: a number stands for a set of texts. -/
def lkG (T : List Tx) (g : Nat → Nat) : List Lk := (labelsT T).map fun (k : Nat) => ((k : Int), ((g k : Nat) : Int))
def Den (L : List Ar) : Nat → List Tx → Nat → Prop
  | 0, T, s => T = [] ∧ s = 0
  | d + 1, T, s => ∃ n, s = frz n (finT T) ∧ ∃ g : Nat → Nat, ChainIs L (lkG T g) n ∧ ∀ k ∈ labelsT T, Den L d (subT k T) (g k)
theorem Den.mono {L L' : List Ar} (h : L <+: L') : ∀ {d : Nat} {T : List Tx} {s : Nat}, Den L d T s → Den L' d T s
  | 0, T, s, hd => hd
  | d + 1, T, s, ⟨n, h1, g, h2, h3⟩ => ⟨n, h1, g, h2.mono h, fun k hk => Den.mono h (h3 k hk)⟩
theorem labelsT_none {T : List Tx} (h : labelsT T = []) (hf : finT T = false) (hr : RiseT T) : T = [] := by
  have e := joinT_self hr
  rw [h, hf] at e
  exact e.symm
theorem lkG_eq {T : List Tx} {g g' : Nat → Nat} (h : ∀ k ∈ labelsT T, g k = g' k) : lkG T g = lkG T g' :=
  List.map_congr_left fun k hk => by rw [h k hk]
theorem map_pair_eq {g g' : Nat → Nat} : ∀ {A B : List Nat}, (A.map fun (k : Nat) => ((k : Int), ((g k : Nat) : Int))) = (B.map fun (k : Nat) => ((k : Int), ((g' k : Nat) : Int))) → A = B ∧ ∀ k ∈ A, g k = g' k
  | [], [], _ => ⟨rfl, fun k hk => by simp at hk⟩
  | [], b :: B, h => by simp at h
  | a :: A, [], h => by simp at h
  | a :: A, b :: B, h => by
    simp only [List.map_cons, List.cons.injEq, Prod.mk.injEq] at h
    obtain ⟨⟨h1, h2⟩, h3⟩ := h
    obtain ⟨e, h4⟩ := map_pair_eq h3
    have e1 : a = b := by omega
    subst e1
    refine ⟨by rw [e], fun k hk => ?_⟩
    rcases List.mem_cons.1 hk with rfl | hk
    · omega
    · exact h4 k hk
theorem labelsT_nil : labelsT [] = [] := List.eq_nil_iff_forall_not_mem.2 fun k hk => (labelsT_mem.1 hk).2 rfl
theorem lkG_nil (g : Nat → Nat) : lkG [] g = [] := by rw [lkG, labelsT_nil]; rfl
theorem Den.none {L : List Ar} : ∀ {d : Nat}, Den L d [] 0
  | 0 => ⟨rfl, rfl⟩
  | d + 1 => ⟨0, rfl, fun _ => 0, by rw [lkG_nil]; rfl, fun k hk => absurd ((labelsT_mem.1 hk).2) (by simp [subT])⟩
/-- A set has one number. -/
theorem Den.fn {L : List Ar} (hn : L.Nodup) : ∀ {d d' : Nat} {T : List Tx} {s s' : Nat}, Den L d T s → Den L d' T s' → s = s'
  | 0, 0, T, s, s', h, h' => h.2.trans h'.2.symm
  | 0, d' + 1, T, s, s', ⟨h1, h2⟩, ⟨n, h3, g, h4, h5⟩ => by
    subst h1
    have h6 : n = 0 := by rw [lkG_nil] at h4; exact h4
    subst h6
    rw [h2, h3]; rfl
  | d + 1, 0, T, s, s', ⟨n, h3, g, h4, h5⟩, ⟨h1, h2⟩ => by
    subst h1
    have h6 : n = 0 := by rw [lkG_nil] at h4; exact h4
    subst h6
    rw [h2, h3]; rfl
  | d + 1, d' + 1, T, s, s', ⟨n, h1, g, h2, h3⟩, ⟨n', h1', g', h2', h3'⟩ => by
    have hg : lkG T g = lkG T g' := lkG_eq fun k hk => Den.fn hn (h3 k hk) (h3' k hk)
    rw [hg] at h2
    rw [h1, h1', ChainIs.fn hn h2 h2']
/-- A number stands for one set. -/
theorem Den.inj {L : List Ar} : ∀ {d d' : Nat} {T T' : List Tx} {s : Nat}, RiseT T → RiseT T' → Den L d T s → Den L d' T' s → T = T'
  | 0, 0, T, T', s, _, _, h, h' => h.1.trans h'.1.symm
  | 0, d' + 1, T, T', s, hr, hr', ⟨h1, h2⟩, ⟨n, h3, g, h4, h5⟩ => by
    obtain ⟨rfl, e⟩ := frz_inj (m := n) (g := finT T') (n := 0) (f := false) (by rw [← h3, h2]; rfl)
    have h6 : lkG T' g = [] := ChainIs.inj h4 (show ChainIs L [] 0 from rfl)
    rw [h1, labelsT_none (by simpa [lkG] using h6) e.symm hr']
  | d + 1, 0, T, T', s, hr, hr', ⟨n, h3, g, h4, h5⟩, ⟨h1, h2⟩ => by
    obtain ⟨rfl, e⟩ := frz_inj (m := n) (g := finT T) (n := 0) (f := false) (by rw [← h3, h2]; rfl)
    have h6 : lkG T g = [] := ChainIs.inj h4 (show ChainIs L [] 0 from rfl)
    rw [h1, labelsT_none (by simpa [lkG] using h6) e.symm hr]
  | d + 1, d' + 1, T, T', s, hr, hr', ⟨n, h1, g, h2, h3⟩, ⟨n', h1', g', h2', h3'⟩ => by
    obtain ⟨rfl, e⟩ := frz_inj (h1.symm.trans h1')
    obtain ⟨e2, hg⟩ := map_pair_eq (ChainIs.inj h2 h2')
    have e3 : (labelsT T).map (fun k => (k, subT k T)) = (labelsT T').map (fun k => (k, subT k T')) := by
      rw [← e2]
      refine List.map_congr_left fun k hk => ?_
      have h4 := h3 k hk
      have h5 := h3' k (by rw [← e2]; exact hk)
      rw [hg k hk] at h4
      rw [Den.inj (subT_rise hr) (subT_rise hr') h4 h5]
    rw [← joinT_self hr, ← joinT_self hr', e, e3]

/-! The arcs of a number, read off the links. -/
def arcsC (L : List Ar) : Nat → Nat → List Lk
  | 0, _ => []
  | f + 1, 0 => []
  | f + 1, n + 1 => match L[n]? with
    | none => []
    | some l => (l.1, l.2.1) :: arcsC L f l.2.2.toNat
theorem arcsC_of {L : List Ar} : ∀ {l : List Lk} {n f : Nat}, ChainIs L l n → l.length ≤ f → arcsC L f n = l
  | [], n, f, h, _ => by cases h; cases f <;> rfl
  | p :: t, n, 0, _, hf => by simp at hf
  | p :: t, n, f + 1, ⟨m, r, h1, h2, h3⟩, hf => by
    subst h1
    simp only [arcsC, h3, Int.toNat_natCast, arcsC_of h2 (by simpa using hf)]
theorem labelsT_lenF (T : List Tx) : (labelsT T).length ≤ 256 := by
  have := List.length_filter_le (fun n => !(subT n T).isEmpty) (List.range 256)
  simpa [labelsT] using this
def lksF (L : List Ar) (s : Nat) : List Lk := arcsC L 256 (s / 2)
def nxF (L : List Ar) (s : Nat) : List Nat := (lksF L s).map fun p => p.2.toNat
theorem frz_half (n : Nat) (f : Bool) : frz n f / 2 = n := by cases f <;> simp [frz] <;> omega
theorem frz_odd (n : Nat) (f : Bool) : decide (frz n f % 2 = 1) = f := by cases f <;> simp [frz] <;> omega
theorem Den.lks {L : List Ar} {d : Nat} {T : List Tx} {s : Nat} (h : Den L d T s) : ∃ g : Nat → Nat, lksF L s = lkG T g ∧ decide (s % 2 = 1) = finT T ∧ ∀ k ∈ labelsT T, Den L (d - 1) (subT k T) (g k) := by
  cases d with
  | zero =>
    obtain ⟨rfl, rfl⟩ := h
    exact ⟨fun _ => 0, by rw [lkG_nil]; rfl, rfl, fun k hk => absurd ((labelsT_mem.1 hk).2) (by simp [subT])⟩
  | succ d =>
    obtain ⟨n, h1, g, h2, h3⟩ := h
    refine ⟨g, ?_, by rw [h1, frz_odd], h3⟩
    rw [lksF, h1, frz_half]
    exact arcsC_of h2 (by rw [lkG, List.length_map]; exact labelsT_lenF T)
def IsF (L : List Ar) (s : Nat) : Prop := ∃ d T, RiseT T ∧ Den L d T s
open Classical in
noncomputable def setF (L : List Ar) (s : Nat) : List Tx := if h : IsF L s then h.choose_spec.choose else []
theorem setF_den {L : List Ar} {s : Nat} (h : IsF L s) : ∃ d, RiseT (setF L s) ∧ Den L d (setF L s) s := by
  unfold setF
  rw [dif_pos h]
  exact ⟨_, h.choose_spec.choose_spec⟩
theorem setF_of {L : List Ar} {d s : Nat} {T : List Tx} (hr : RiseT T) (h : Den L d T s) : setF L s = T := by
  obtain ⟨d', h1, h2⟩ := setF_den ⟨d, T, hr, h⟩
  exact Den.inj h1 hr h2 h
theorem setF_inj {L : List Ar} (hn : L.Nodup) {s s' : Nat} (h : IsF L s) (h' : IsF L s') (e : setF L s = setF L s') : s = s' := by
  obtain ⟨d, _, h2⟩ := setF_den h
  obtain ⟨d', _, h2'⟩ := setF_den h'
  rw [e] at h2
  exact Den.fn hn h2 h2'
theorem IsF.next {L : List Ar} {s : Nat} (h : IsF L s) : ∀ y ∈ nxF L s, IsF L y := by
  obtain ⟨d, T, hr, hd⟩ := h
  obtain ⟨g, h1, _, h3⟩ := hd.lks
  intro y hy
  rw [nxF, h1, lkG, List.map_map] at hy
  obtain ⟨k, hk, rfl⟩ := List.mem_map.1 hy
  exact ⟨_, _, subT_rise hr, by simpa using h3 k hk⟩
theorem setF_next {L : List Ar} {s : Nat} (h : IsF L s) : nextT (setF L s) = (nxF L s).map (setF L) := by
  obtain ⟨d, hr, hd⟩ := setF_den h
  obtain ⟨g, h1, _, h3⟩ := hd.lks
  rw [nxF, h1, lkG, List.map_map, List.map_map, nextT]
  refine List.map_congr_left fun k hk => ?_
  simp only [Function.comp, Int.toNat_natCast]
  exact (setF_of (subT_rise hr) (h3 k hk)).symm
/-- The states of a number, in the order in which they are met, without their Aheads. -/
def stF (L : List Ar) (o : List Nat) (s : Nat) : St := (decide (s % 2 = 1), (lksF L s).map fun p => (p.1, ((o.idxOf p.2.toNat : Nat) : Int), (0 : Int)))
def bare (s : St) : St := (s.1, s.2.map fun a => (a.1, a.2.1, (0 : Int)))
theorem idxOf_setF {L : List Ar} (hn : L.Nodup) : ∀ (o : List Nat) (x : Nat), (∀ y ∈ o, IsF L y) → IsF L x → (o.map (setF L)).idxOf (setF L x) = o.idxOf x
  | [], x, _, _ => rfl
  | y :: t, x, h, hx => by
    rw [List.map_cons, List.idxOf_cons, List.idxOf_cons]
    by_cases e : y = x
    · subst e; simp
    · have e2 : ¬ setF L y = setF L x := fun e3 => e (setF_inj hn (h y (by simp)) hx e3)
      have h1 : (setF L y == setF L x) = false := beq_false_of_ne e2
      have h2 : (y == x) = false := beq_false_of_ne e
      rw [idxOf_setF hn t x (fun z hz => h z (by simp [hz])) hx, h1, h2]
theorem frozen_plain {L : List Ar} (hn : L.Nodup) {d r : Nat} {T : List Tx} (hr : RiseT T) (hd : Den L d T r) {o : List Nat} (hb : IsBfs (nxF L) r o) :
    IsBfs nextT T (o.map (setF L)) ∧ o.map (stF L o) = ((o.map (setF L)).map (stOf (o.map (setF L)))).map bare := by
  have hf : IsF L r := ⟨d, T, hr, hd⟩
  have hall : ∀ x ∈ o, IsF L x := hb.all (IsF L) hf (fun x hx y hy => hx.next y hy)
  refine ⟨?_, ?_⟩
  · rw [← setF_of hr hd]
    exact hb.map nextT (setF L) (IsF L) hf (fun x y hx hy e => setF_inj hn hx hy e) (fun x hx y hy => hx.next y hy) (fun x hx => setF_next hx)
  · rw [List.map_map, List.map_map]
    refine List.map_congr_left fun x hx => ?_
    obtain ⟨d', hr', hd'⟩ := setF_den (hall x hx)
    obtain ⟨g, h1, h2, h3⟩ := hd'.lks
    simp only [Function.comp, stF, bare, stOf, h2, h1, lkG, List.map_map]
    congr 1
    refine List.map_congr_left fun k hk => ?_
    have hy : IsF L (g k) := ⟨_, _, subT_rise hr', h3 k hk⟩
    have e := idxOf_setF hn o (g k) hall hy
    rw [setF_of (subT_rise hr') (h3 k hk)] at e
    simp only [Function.comp, Int.toNat_natCast, e]
end Go.Proofs.Ytbkedgpligcicaa

namespace Go.Proofs.Ytbkedgpligcicaa
open Go Go.RowKit
set_option linter.unusedVariables false

/-- Marks among the deferred calls of an activation: of each loop over an iterator that was left. -/
def mark (D : Nat) : Deferred := { target := .collected D, args := #[] }
structure Marks (w : World) (B : Nat) (Ds : List Nat) : Prop where
  nodup : Ds.Nodup
  at_ : ∀ D ∈ Ds, B ≤ D ∧ w.heap[D]? = some (.deferred (some []))
/-- Cells that stay, but for those that a call has laid. -/
def KeepD (w w' : World) : Prop := ∀ D : Nat, w.heap[D]? = some (.deferred (some [])) → w'.heap[D]? = some (.deferred (some []))
theorem Marks.keep {w w' : World} {B : Nat} {Ds : List Nat} (h : Marks w B Ds) (hk : KeepD w w') : Marks w' B Ds := ⟨h.nodup, fun D hD => ⟨(h.at_ D hD).1, hk D (h.at_ D hD).2⟩⟩
theorem Marks.push {w : World} {B D : Nat} {Ds : List Nat} (h : Marks w B Ds) (hB : B ≤ D) (hD : w.heap[D]? = some (.deferred (some []))) (hn : D ∉ Ds) : Marks w B (D :: Ds) :=
  ⟨List.nodup_cons.2 ⟨hn, h.nodup⟩, fun x hx => by
    rcases List.mem_cons.1 hx with rfl | hx
    · exact ⟨hB, hD⟩
    · exact h.at_ x hx⟩
theorem Marks.lt {w : World} {B : Nat} {Ds : List Nat} (h : Marks w B Ds) {D : Nat} (hD : D ∈ Ds) : D < w.heap.size := (Array.getElem?_eq_some_iff.1 (h.at_ D hD).2).1
/-- All but marks stays. -/
structure AllBut (w w' : World) : Prop where
  os : w'.os = w.os
  tape : w'.tape = w.tape
  output : w'.output = w.output
  size : w'.heap.size = w.heap.size
  block : ∀ b : Nat, w.heap[b]? ≠ some (.deferred (some [])) → w'.heap[b]? = w.heap[b]?
theorem AllBut.refl (w : World) : AllBut w w := ⟨rfl, rfl, rfl, rfl, fun _ _ => rfl⟩
theorem leaves_marks {F : Fence} {n : Nat} {P : Program} {fn : Func} {tmps : Array Value} {R : Ending → World → Prop} {B : Nat} : ∀ (Ds : List Nat) (w0 w : World), Marks w B Ds → AllBut w0 w → Below B w0 w →
    (∀ w', AllBut w0 w' → Below B w0 w' → LeavesIn F n P fn tmps R [] .returning w') → LeavesInM F n P fn tmps R (Ds.map mark) .returning w
  | [], w0, w, _, ha, hb, h => h w ha hb
  | D :: Ds, w0, w, hm, ha, hb, h => by
    have hD := (hm.at_ D (by simp)).2
    have hB := (hm.at_ D (by simp)).1
    have hnd := List.nodup_cons.1 hm.nodup
    refine ⟨by simp, .inl ⟨D, _, rfl, run_takeDeferred hD, ?_⟩⟩
    refine leaves_marks Ds w0 (w.putObj D (.deferred none)) ⟨hnd.2, fun x hx => ⟨(hm.at_ x (by simp [hx])).1, ?_⟩⟩ ?_ ?_ h
    · rw [World.putObj_heap_other (fun e => by subst e; exact hnd.1 hx)]
      exact (hm.at_ x (by simp [hx])).2
    · refine ⟨ha.os, ha.tape, ha.output, by rw [← ha.size]; simp [World.putObj], fun b hb' => ?_⟩
      have hne : b ≠ D := by
        rintro rfl
        by_cases hq : w0.heap[b]? = some (.deferred (some []))
        · exact hb' hq
        · exact hq ((ha.block b hb').symm.trans hD)
      rw [World.putObj_heap_other hne]
      exact ha.block b hb'
    · refine ⟨hb.os, hb.tape, hb.output, by have := hb.size; simpa [World.putObj] using this, fun b hb' => ?_⟩
      rw [World.putObj_heap_other (by omega)]
      exact hb.block b hb'
end Go.Proofs.Ytbkedgpligcicaa

namespace Go.Proofs.Ytbkedgpligcicaa
open Go Go.RowKit Go.Shelf
set_option linter.unusedVariables false
set_option maxRecDepth 100000

/-- The two blocks of a range over a function: its record and the place of its deferred calls. -/
structure RecAt (h : Nat) (r : Loop) (W : World) : Prop where
  rc : W.heap[h + 1]? = some (.loop r)
  df : W.heap[h]? = some (.deferred (some []))
/-- A range over a function with a statement of one's own for every state: what the iterator wants of a round. -/
def YieldI {α : Type} (P : Program) (h : Nat) (r : Loop) (I : α → World → Prop) (live : α → Prop) (args : α → Array Value) (next : α → α) : Prop := ∀ (m : Nat) (x : α) (W : World), live x → I x W → RecAt h r W →
  YieldAt Fence.wide m P (h + 1) (args x) W fun e W' => e = .returned (.bool true) ∧ I (next x) W' ∧ RecAt h r W'
theorem range_inv {α : Type} {n : Nat} {P : Program} {g : Operand} {ps : Array Tmp} {assign body : Code} {Q : Exit → Act → World → Prop} {a : Act} {w : World} {gf : Nat} {lb : Array Value}
    (hg : a.eval g = .func (.func gf) #[] lb) (eg : ∀ args w, (callFunc gf args).run P w = .ok (.enter gf args) w)
    (I : α → World → Prop) (live : α → Prop) (args : α → Array Value) (next : α → α) (x0 xN : α) (hps : ∀ x, (args x).size = ps.size)
    (hput : ∀ x W o, I x W → I x (W.putObj (w.heap.size + 1) o))
    (h0 : ∀ W1, Below w.heap.size w W1 → W1.heap.size = w.heap.size + 2 → I x0 W1)
    (hit : ∀ (r : Loop) (W1 : World), Below w.heap.size w W1 → YieldI P w.heap.size r I live args next → I x0 W1 → RecAt w.heap.size r W1 →
      CallsIn Fence.wide (n - 1) P gf (#[.func (.yield (w.heap.size + 1)) #[] #[]] ++ lb) W1 fun e W' => (∃ v, e = .returned v) ∧ I xN W' ∧ RecAt w.heap.size r W')
    (a₁ : α → Act)
    (hassign : ∀ (l m : Nat) (x : α) (W : World) (K : Act → World → Prop), K (a₁ x) W → assign.wpIn (Fence.wide.inRound l) m P (Exit.then K (fun _ _ _ => False)) { tmps := (ps.zip (args x)).foldl (fun t (p, v) => t.setIfInBounds p v) a.tmps, defers := [] } W)
    (hbody : ∀ (m : Nat) (x : α) (W : World), live x → I x W → w.heap.size + 1 < W.heap.size → (∃ r, W.heap[w.heap.size + 1]? = some (.loop r)) → W.heap[w.heap.size]? = some (.deferred (some [])) →
      body.wpIn (Fence.wide.inRound (w.heap.size + 1)) m P (fun e _ W' => e = .normal ∧ I (next x) W' ∧ W'.heap[w.heap.size]? = W.heap[w.heap.size]? ∧ W'.heap[w.heap.size + 1]? = W.heap[w.heap.size + 1]?) (a₁ x) W)
    (hdone : ∀ W' : World, I xN W' → W'.heap[w.heap.size]? = some (.deferred (some [])) → Q .normal { a with defers := { target := .collected w.heap.size, args := #[] } :: a.defers } W') :
    (Code.rangeFunc g ps assign body).wpIn Fence.wide n P Q a w := by
  refine wpIn_rangeFunc fun fn hfn => ?_
  obtain ⟨r0, hr0⟩ : ∃ r0 : Loop, r0 = { state := .ready, pending := none, fn, tmps := a.tmps, params := ps, assign, body, defers := w.heap.size } := ⟨_, rfl⟩
  obtain ⟨W1, hW1⟩ : ∃ W1, (w.alloc (.deferred (some []))).alloc (.loop r0) = W1 := ⟨_, rfl⟩
  have hB1 : Below w.heap.size w W1 := by rw [← hW1]; exact ((Below.refl _ w).alloc (Nat.le_refl _) _).alloc (by simp) _
  have hz1 : W1.heap.size = w.heap.size + 2 := by rw [← hW1]; simp
  have hC1 : RecAt w.heap.size r0 W1 := by
    refine ⟨?_, ?_⟩
    · rw [← hW1]; have := World.alloc_heap_new (w.alloc (.deferred (some []))) (.loop r0); rwa [World.size_alloc] at this
    · rw [← hW1]; exact (Below.heap_alloc _ _ _ (by simp)).trans (World.alloc_heap_new w _)
  refine ⟨w.heap.size + 1, [{ target := .collected w.heap.size, args := #[] }], W1, { target := .fn (.func gf) lb, args := #[.func (.yield (w.heap.size + 1)) #[] #[]] }, W1, gf,
    #[.func (.yield (w.heap.size + 1)) #[] #[]] ++ lb, W1, ?_, ?_, fun _ _ => trivial, ?_, fun h => (by cases h), ?_⟩
  · rw [← hW1, hr0]; exact run_enterLoop_outer _ _ _ _ _
  · simp only [resolve, hg]
    simp [go_sem]
  · simp [invoke, go_sem, eg]
  · refine (hit r0 W1 hB1 ?_ (h0 W1 hB1 hz1) hC1).mono ?_
    · intro m x W hk hI hc
      have hl := hc.rc
      have hlt : w.heap.size + 1 < W.heap.size := (Array.getElem?_eq_some_iff.1 hl).1
      have hy := run_yield (P := P) (args := args x) hl (by rw [hr0]; exact hps x)
      rw [hr0] at hy
      refine ⟨fn, _, assign, body, hy, roundIn_of_wpIn hfn (hassign _ m x W _ ⟨_, run_beginRound hl (by rw [hr0]), ?_⟩)⟩
      obtain ⟨W2, hW2⟩ : ∃ W2, W.putObj (w.heap.size + 1) (.loop { r0 with state := .busy }) = W2 := ⟨_, rfl⟩
      rw [hW2]
      have hI2 : I x W2 := by rw [← hW2]; exact hput x W _ hI
      have hl2 : W2.heap[w.heap.size + 1]? = some (.loop { r0 with state := .busy }) := by rw [← hW2]; exact World.putObj_heap_same hlt
      have hd2 : W2.heap[w.heap.size]? = some (.deferred (some [])) := by rw [← hW2]; exact (World.putObj_heap_other (by omega)).trans hc.df
      have hs2 : w.heap.size + 1 < W2.heap.size := (Array.getElem?_eq_some_iff.1 hl2).1
      refine wpIn_mono (hbody m x W2 hk hI2 hs2 ⟨_, hl2⟩ hd2) ?_
      rintro e a3 W3 ⟨rfl, hI3, hd3, hr3⟩
      have hl3 : W3.heap[w.heap.size + 1]? = some (.loop { r0 with state := .busy }) := hr3.trans hl2
      have hlt3 := (Array.getElem?_eq_some_iff.1 hl3).1
      have hend := run_endRound (P := P) none hl3
      have hrec : ({ { r0 with state := .busy } with state := if (none : Option Code).isNone then .ready else .done, pending := none } : Loop) = r0 := by rw [hr0]; rfl
      rw [hrec] at hend
      refine ⟨_, _, hend, rfl, hput _ _ _ hI3, World.putObj_heap_same hlt3, (World.putObj_heap_other (by omega)).trans (hd3.trans hd2)⟩
    · rintro e W2 ⟨⟨v, rfl⟩, hI2, hc⟩
      have hend := run_endLoop (P := P) hc.rc (by rw [hr0]; simp)
      have hpn : r0.pending = none := by rw [hr0]
      rw [hpn] at hend
      exact ⟨none, _, hend, hdone _ (hput _ _ _ hI2) ((World.putObj_heap_other (by omega)).trans hc.df)⟩
end Go.Proofs.Ytbkedgpligcicaa
