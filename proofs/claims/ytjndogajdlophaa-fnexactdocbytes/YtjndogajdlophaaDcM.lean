import Derived.Test.YtjndogajdlophaaDcA
import Derived.Test.YtjndogajdlophaaProg
import Derived.Test.YtjndogajdlophaaPlain
import Derived.Test.YtjndogajdlophaaAid
import Derived.Test.YtjndogajdlophaaOwn
import Derived.WalkLawsBesides
import Derived.WalkSpells
import Derived.BigQuiet
import Derived.Deep.QuietTactic
import Derived.BigRegion
import Derived.WalkKit
import Derived.Laws.StructEq
namespace Go.Proofs.Ytjndogajdlophaa
open Go Go.RowKit
set_option linter.unusedVariables false

def ar0 : Ar := (0, 0, 0)
/-- A slice of arcs, a slice of states, as they lie in a world. -/
def HoldA (w : World) (a : Option Addr) (l : List Ar) : Prop :=
  l = [] ∨ ∃ b off, a = some ⟨b, off, none⟩ ∧ b < w.heap.size ∧ ∀ k, k < l.length → w.cell? ⟨b, off + k * 3, none⟩ = some (.int .i64 (l.getD k ar0).1) ∧ w.cell? ⟨b, off + k * 3 + 1, none⟩ = some (.int .i64 (l.getD k ar0).2.1) ∧ w.cell? ⟨b, off + k * 3 + 2, none⟩ = some (.int .i64 (l.getD k ar0).2.2)
theorem HoldA.keep {w w' : World} {a : Option Addr} {l : List Ar} (h : HoldA w a l) (hz : w.heap.size ≤ w'.heap.size) (hc : ∀ b off, a = some ⟨b, off, none⟩ → b < w.heap.size → w'.heap[b]? = w.heap[b]?) : HoldA w' a l := by
  rcases h with h | ⟨b, off, ha, hb, h⟩
  · exact Or.inl h
  · refine Or.inr ⟨b, off, ha, by omega, fun k hk => ?_⟩
    have e : ∀ j, w'.cell? ⟨b, j, none⟩ = w.cell? ⟨b, j, none⟩ := fun j => by simp [World.cell?, hc b off ha hb]
    rw [e, e, e]
    exact h k hk
theorem HoldA.below {w w' : World} {a : Option Addr} {l : List Ar} (h : HoldA w a l) (hb : Below w.heap.size w w') : HoldA w' a l := h.keep hb.size fun b off _ hl => hb.block b hl
def HoldS (w : World) (a : Option Addr) (S : List St) : Prop :=
  S = [] ∨ ∃ b off, a = some ⟨b, off, none⟩ ∧ b < w.heap.size ∧ ∀ i, i < S.length → w.cell? ⟨b, off + i * 2, none⟩ = some (.bool (S.getD i st0).1) ∧ ∃ ai ci, w.cell? ⟨b, off + i * 2 + 1, none⟩ = some (.slice ai (S.getD i st0).2.length ci) ∧ HoldA w ai (S.getD i st0).2
theorem HoldS.below {w w' : World} {a : Option Addr} {S : List St} (h : HoldS w a S) (hb : Below w.heap.size w w') : HoldS w' a S := by
  rcases h with h | ⟨b, off, ha, hbl, h⟩
  · exact Or.inl h
  · refine Or.inr ⟨b, off, ha, Nat.lt_of_lt_of_le hbl hb.size, fun i hi => ?_⟩
    obtain ⟨h1, ai, ci, h2, h3⟩ := h i hi
    exact ⟨(hb.cell (p := ⟨b, off + i * 2, none⟩) hbl).trans h1, ai, ci, (hb.cell (p := ⟨b, off + i * 2 + 1, none⟩) hbl).trans h2, h3.below hb⟩

theorem blkc {w : World} {b : Nat} {cs : Array Value} {t : TypeId} (h : w.heap[b]? = some (.cells cs t)) (k : Nat) : w.cell? ⟨b, k, none⟩ = cs[k]? := by
  simp [World.cell?, h]
theorem blko {w w' : World} {b : Nat} {o : Obj} (h : w.heap[b]? = some o) (hb : Below w.heap.size w w') : w'.heap[b]? = some o := (hb.block b (Array.getElem?_eq_some_iff.1 h).1).trans h
theorem box_two (w : World) (o1 o2 : Obj) : ((w.alloc o1).alloc o2).heap[w.heap.size]? = some o1 ∧ ((w.alloc o1).alloc o2).heap[w.heap.size + 1]? = some o2 := by
  refine ⟨?_, ?_⟩
  · rw [Below.heap_alloc _ _ _ (by simp)]; exact heap_alloc_new _ _
  · have := heap_alloc_new (w.alloc o1) o2
    rw [World.size_alloc] at this
    exact this
theorem take_all (l m : List Ar) (hl : l.length = m.length) (k : Nat) (hk : ∀ j, j < k → l.getD j ar0 = m.getD j ar0) (h : ¬ k < l.length) : l = m := by
  apply List.ext_getElem hl
  intro i h1 h2
  have := hk i (by omega)
  simpa [h1, h2] using this

def arV (p : Ar) : Value := .agg #[.int .i64 p.1, .int .i64 p.2.1, .int .i64 p.2.2]
theorem eqArc (w : World) (p r : Ar) : (Op.equalIn 10000 110 (.agg #[.int .i64 p.1, .int .i64 p.2.1, .int .i64 p.2.2]) (.agg #[.int .i64 r.1, .int .i64 r.2.1, .int .i64 r.2.2])).run Try.prog w = .ok (decide (p = r)) w := by
  obtain ⟨p0, p1, p2⟩ := p
  obtain ⟨r0, r1, r2⟩ := r
  go_simp
  by_cases h0 : p0 = r0 <;> by_cases h1 : p1 = r1 <;> by_cases h2 : p2 = r2 <;> simp [*]
theorem guardArc (w : World) (x y : Operand) (xs ys : Array Value) : (eqGuard .neq 110 x y (.agg xs) (.agg ys)).run Try.prog w = .ok () w := run_eqGuard_agg w .neq _ x y xs ys (by kernel_rfl)
set_option maxHeartbeats 2000000 in
set_option maxRecDepth 100000 in
theorem sameState_any (f1 f2 : Bool) (a1 a2 : Option Addr) (c1 c2 : Nat) (l m : List Ar) (w : World) (hn : l.length ≤ 1048576) (hm : m.length ≤ 1048576) (h1 : HoldA w a1 l) (h2 : HoldA w a2 m) (R : Bool) (hR : decide ((f1, l) = (f2, m)) = R) :
    Calls Try.prog 87 #[.agg #[.bool f1, .slice a1 l.length c1], .agg #[.bool f2, .slice a2 m.length c2]] w fun e w' => e = .returned (.bool R) ∧ Below w.heap.size w w' := by
  have HRR := hidd hR
  clear hR
  by_cases hq : f1 = f2 ∧ l.length = m.length
  · obtain ⟨rfl, hlm⟩ := hq
    generalize hln : l.length = n at *
    have hmn : m.length = n := hlm.symm
    rw [hmn]
    have HBa : Hid (Below w.heap.size w ((w.alloc (.cells #[.bool f1, .slice a1 n c1] 104)).alloc (.cells #[.bool f1, .slice a2 n c2] 104))) := ((Below.refl _ _).alloc (Nat.le_refl _) _).alloc (by simp) _
    have H1 := hidd (h1.below HBa.out)
    have H2 := hidd (h2.below HBa.out)
    have Hln := hidd hln
    have Hmn := hidd hmn
    clear h1 h2 hln hmn hlm hm
    have hneq : (f1 != f1) = false := by cases f1 <;> rfl
    go_enter Try.func87, Try.ntmps87
    go_wp2_with fail
    have Hbx := hidd (box_two w (.cells #[.bool f1, .slice a1 n c1] 104) (.cells #[.bool f1, .slice a2 n c2] 104))
    generalize (w.alloc (.cells #[.bool f1, .slice a1 n c1] 104)).alloc (.cells #[.bool f1, .slice a2 n c2] 104) = wa at *
    have e1 : wa.cell? ⟨w.heap.size, 1, none⟩ = some (.slice a1 n c1) := blkc Hbx.out.1 1
    have e2 : wa.cell? ⟨w.heap.size + 1, 1, none⟩ = some (.slice a2 n c2) := blkc Hbx.out.2 1
    go_loopw [5] (fun iv wr => ∃ k : Nat, k ≤ n ∧ iv = .int .i64 (k : Int) ∧ (∀ j, j < k → l.getD j ar0 = m.getD j ar0) ∧ ∃ q, wr = wa.drewN q) (fun iv _ => n - (intOf iv).toNat)
    case atStart => exact ⟨0, Nat.zero_le _, rfl, fun j hj => absurd hj (by omega), 0, rfl⟩
    case round =>
      obtain ⟨k, hk, rfl, heq, q, rfl⟩ := hrel
      have HE := hidd heq
      clear heq
      by_cases hlt : k < n
      · have hkz : (k : Int) < (n : Int) := by omega
        obtain ⟨b1, o1, rfl, hb1, hc1⟩ := H1.out.resolve_left (fun h => by have := Hln.out; rw [h] at this; simp at this; omega)
        obtain ⟨b2, o2, rfl, hb2, hc2⟩ := H2.out.resolve_left (fun h => by have := Hmn.out; rw [h] at this; simp at this; omega)
        obtain ⟨x0, x1, x2⟩ := hc1 k (by rw [Hln.out]; exact hlt)
        obtain ⟨y0, y1, y2⟩ := hc2 k (by rw [Hmn.out]; exact hlt)
        clear hc1 hc2
        obtain ⟨p, hp⟩ : ∃ p, l.getD k ar0 = p := ⟨_, rfl⟩
        obtain ⟨r, hr⟩ : ∃ r, m.getD k ar0 = r := ⟨_, rfl⟩
        rw [hp] at x0 x1 x2
        rw [hr] at y0 y1 y2
        have HP := hidd hp
        have HR := hidd hr
        clear hp hr
        obtain ⟨p0, p1, p2⟩ := p
        obtain ⟨r0, r1, r2⟩ := r
        dsimp only at x0 x1 x2 y0 y1 y2
        by_cases hpr : (p0, p1, p2) = (r0, r1, r2)
        · cases hpr
          have HE2 : Hid (∀ j, j < k + 1 → l.getD j ar0 = m.getD j ar0) := fun j hj => by
            by_cases hjk : j = k
            · subst hjk; rw [HP.out, HR.out]
            · exact HE.out j (by omega)
          go_wp2
          go_quiet (fail)
          go_wp2
          go_roundw
          case rel => exact ⟨k + 1, by omega, by go_num, HE2.out, _, rfl⟩
          case measure => simp [intOf]; omega
        · have HF : Hid (R = false) := by
            refine HRR.out.symm.trans (decide_eq_false ?_)
            refine fun h => hpr ?_
            have h' : l = m := (Prod.mk.inj h).2
            have e := HP.out
            rw [h', HR.out] at e
            exact e.symm
          have h3 : ¬ (p0 = r0 ∧ p1 = r1 ∧ p2 = r2) := fun h => hpr (by rw [h.1, h.2.1, h.2.2])
          clear hpr
          by_cases h0 : p0 = r0
          · by_cases h1 : p1 = r1
            · have h2 : ¬ p2 = r2 := fun h => h3 ⟨h0, h1, h⟩
              subst h0 h1
              clear h3
              go_wp2
              go_quiet (fail)
              go_wp2
              go_ret
              rw [HF.out]
              exact ⟨rfl, below_drewN (below_drewN HBa.out _) _⟩
            · subst h0
              clear h3
              go_wp2
              go_quiet (fail)
              go_wp2
              go_ret
              rw [HF.out]
              exact ⟨rfl, below_drewN (below_drewN HBa.out _) _⟩
          · clear h3
            go_wp2
            go_quiet (fail)
            go_wp2
            go_ret
            rw [HF.out]
            exact ⟨rfl, below_drewN (below_drewN HBa.out _) _⟩
      · have HF : Hid (R = true) := by
          refine HRR.out.symm.trans (decide_eq_true ?_)
          rw [take_all l m (by rw [Hln.out, Hmn.out]) k HE.out (by rw [Hln.out]; exact hlt)]
        have hkz : ¬ (k : Int) < (n : Int) := by omega
        go_wp2
        go_ret
        rw [HF.out]
        exact ⟨rfl, below_drewN HBa.out _⟩
  · have HF : Hid (R = false) := by
      refine HRR.out.symm.trans (decide_eq_false ?_)
      refine fun h => hq ?_
      have h' := Prod.mk.inj h
      exact ⟨h'.1, by rw [h'.2]⟩
    have HBa : Hid (Below w.heap.size w ((w.alloc (.cells #[.bool f1, .slice a1 l.length c1] 104)).alloc (.cells #[.bool f2, .slice a2 m.length c2] 104))) := ((Below.refl _ _).alloc (Nat.le_refl _) _).alloc (by simp) _
    by_cases hf : f1 = f2
    · subst hf
      have hneq : (f1 != f1) = false := by cases f1 <;> rfl
      have hln : ¬ l.length = m.length := fun h => hq ⟨rfl, h⟩
      have hlz : ((l.length : Int) != (m.length : Int)) = true := by simp; omega
      clear hq
      go_enter Try.func87, Try.ntmps87
      go_wp2
      go_ret
      rw [HF.out]
      exact ⟨rfl, HBa.out⟩
    · have hneq : (f1 != f2) = true := by cases f1 <;> cases f2 <;> simp_all
      clear hq
      go_enter Try.func87, Try.ntmps87
      go_wp2
      go_ret
      rw [HF.out]
      exact ⟨rfl, HBa.out⟩
end Go.Proofs.Ytjndogajdlophaa
