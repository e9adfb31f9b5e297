import Derived.Test.YtefhmbnhhkgifaaDoorReadLogJ18
import Derived.Test.YtefhmbnhhkgifaaDoorReadLogJ28
import Derived.Test.YtefhmbnhhkgifaaDoorReadLogJ29
namespace Go.Proofs.YtefhmbnhhkgifaaDoor
open Go Go.RowKit
set_option linter.unusedVariables false
set_option linter.unusedSimpArgs false
set_option maxRecDepth 100000

/-- The number at which value j's marks begin. -/
def kAt (ls : List (Nat × Nat)) (k : Nat) : Nat → Nat
  | 0 => k
  | j + 1 => kAt ls k j + 1 + (ls.getD j (0, 0)).1 + (ls.getD j (0, 0)).2
theorem kAt_le (ls : List (Nat × Nat)) (k : Nat) (hl : ∀ j, (ls.getD j (0, 0)).1 ≤ 4096 ∧ (ls.getD j (0, 0)).2 ≤ 4096) : ∀ j, k ≤ kAt ls k j ∧ kAt ls k j ≤ k + j * 8193
  | 0 => by simp [kAt]
  | j + 1 => by
    have h1 := kAt_le ls k hl j
    have h2 := hl j
    simp only [kAt]
    omega
/-- An answer of which the first i values are written over. -/
structure MkS (w : World) (lo hi : Nat) (va : Value) (ls : List (Nat × Nat)) (xs : List Value) (k i : Nat) : Prop where
  row : w.ownsRow lo 64 3 va ls.length xs
  top : ∀ b, va.ownBlock = some b → b < hi
  val : ∀ j, j < ls.length → ∃ vt vn T N, xs[j * 3 + 1]? = some vt ∧ xs[j * 3 + 2]? = some vn ∧ w.ownsRow lo 9 1 vt (ls.getD j (0, 0)).1 T ∧ w.ownsRow lo 3 1 vn (ls.getD j (0, 0)).2 N ∧
    (j < i → xs[j * 3]? = some (.string (mkText (kAt ls k j))) ∧ T = markSs ((kAt ls k j : Nat) + 1 : Int) (ls.getD j (0, 0)).1 ∧ N = marks ((kAt ls k j : Nat) + 1 + ((ls.getD j (0, 0)).1 : Nat) : Int) (ls.getD j (0, 0)).2)
  lie : ∀ j b, j < ls.length → LiesV xs j b → lo ≤ b ∧ b < hi
  dis : ∀ i j b, i < j → j < ls.length → LiesV xs i b → ¬ LiesV xs j b
def lensV (V : List Vl) : List (Nat × Nat) := V.map fun v => (v.2.1.length, v.2.2.length)
theorem lensV_at (V : List Vl) (j : Nat) (hj : j < V.length) : (lensV V).getD j (0, 0) = ((V.getD j vl0).2.1.length, (V.getD j vl0).2.2.length) := by
  simp [lensV, List.getD_eq_getElem?_getD, hj]
theorem AnsV.mks {w : World} {lo hi : Nat} {va : Value} {V : List Vl} {xs : List Value} (h : AnsV w lo hi va V xs) (k : Nat) : MkS w lo hi va (lensV V) xs k 0 := by
  have hl : (lensV V).length = V.length := by simp [lensV]
  refine ⟨by rw [hl]; exact h.row, h.top, fun j hj => ?_, fun j b hj => h.lie j b (by omega), fun i j b hij hj => h.dis i j b hij (by omega)⟩
  rw [hl] at hj
  obtain ⟨vt, vn, h0, h1, h2, h3, h4⟩ := h.val j hj
  rw [lensV_at V j hj]
  exact ⟨vt, vn, _, _, h1, h2, h3, h4, fun h => absurd h (by omega)⟩
theorem MkS.keep {w w' : World} {lo hi : Nat} {va : Value} {ls : List (Nat × Nat)} {xs : List Value} {k i : Nat} (h : MkS w lo hi va ls xs k i) (hk : ∀ b, lo ≤ b → b < hi → w'.heap[b]? = w.heap[b]?) : MkS w' lo hi va ls xs k i := by
  refine ⟨own_keep h.row fun b hb => hk b (h.row.lt b hb).1 (h.top b hb), h.top, fun j hj => ?_, h.lie, h.dis⟩
  obtain ⟨vt, vn, T, N, h1, h2, h3, h4, h5⟩ := h.val j hj
  refine ⟨vt, vn, T, N, h1, h2, own_keep h3 fun b hb => ?_, own_keep h4 fun b hb => ?_, h5⟩
  · have := h.lie j b hj ⟨vt, Or.inl h1, hb⟩; exact hk b this.1 this.2
  · have := h.lie j b hj ⟨vn, Or.inr h2, hb⟩; exact hk b this.1 this.2
theorem own_kept2 {w w' : World} {base e e' sz sz' base' n n' : Nat} {v v' : Value} {xs xs' : List Value} (h : w.ownsRow base e sz v n xs) (hg : w.grownBy w' v'.ownBlock) (h' : w.ownsRow base' e' sz' v' n' xs') (hne : e ≠ e') : w'.ownsRow base e sz v n xs := h.kept hg (own_tyne h h' hne)
/-- One value more written over. -/
theorem MkS.step {w w2 w3 : World} {lo hi g cap : Nat} {ls : List (Nat × Nat)} {xs : List Value} {k i : Nat} {vt vn : Value} (h : MkS w lo hi (.slice (some ⟨g, 0, none⟩) ls.length cap) ls xs k i) (hi' : i < ls.length)
    (ht : xs[i * 3 + 1]? = some vt) (hn : xs[i * 3 + 2]? = some vn)
    (hg2 : (w.setCell ⟨g, i * 3, none⟩ (.string (mkText (kAt ls k i)))).grownBy w2 vt.ownBlock) (ho2 : w2.ownsRow lo 9 1 vt (ls.getD i (0, 0)).1 (markSs ((kAt ls k i : Nat) + 1 : Int) (ls.getD i (0, 0)).1))
    (hg3 : w2.grownBy w3 vn.ownBlock) (ho3 : w3.ownsRow lo 3 1 vn (ls.getD i (0, 0)).2 (marks ((kAt ls k i : Nat) + 1 + ((ls.getD i (0, 0)).1 : Nat) : Int) (ls.getD i (0, 0)).2)) :
    MkS w3 lo hi (.slice (some ⟨g, 0, none⟩) ls.length cap) ls (xs.set (i * 3) (.string (mkText (kAt ls k i)))) k (i + 1) ∧ ∀ b, (b < lo ∨ hi ≤ b) → b < w.heap.size → w3.heap[b]? = w.heap[b]? := by
  have hxl := h.row.1
  obtain ⟨_, _, Ti, Ni, q1, q2, q3, q4, _⟩ := h.val i hi'
  rw [ht] at q1
  rw [hn] at q2
  cases q1
  cases q2
  have hgx : lo ≤ g ∧ g < hi := ⟨(h.row.lt g rfl).1, h.top g rfl⟩
  have hr1 := (h.row.stored (i * 3) (.string (mkText (kAt ls k i)))).1
  have oth : ∀ b, b ≠ g → (w.setCell ⟨g, i * 3, none⟩ (.string (mkText (kAt ls k i)))).heap[b]? = w.heap[b]? := fun b hb => heap_set_other w g (i * 3) _ b hb
  have hsz : (w.setCell ⟨g, i * 3, none⟩ (.string (mkText (kAt ls k i)))).heap.size = w.heap.size := by simp
  have tg : ∀ {e sz : Nat} {v : Value} {m : Nat} {ys : List Value}, w.ownsRow lo e sz v m ys → 64 ≠ e → (w.setCell ⟨g, i * 3, none⟩ (.string (mkText (kAt ls k i)))).ownsRow lo e sz v m ys := fun {e sz v m ys} hv hne => own_keep hv fun b hb => oth b (fun e' => by
    subst e'
    rcases own_tyne h.row hv hne with e2 | e2
    · cases e2
    · exact e2 hb.symm)
  have t1 := tg q3 (by decide)
  have n1 := tg q4 (by decide)
  have hr2 := own_kept2 hr1 hg2 t1 (by decide)
  have n2 := own_kept2 n1 hg2 t1 (by decide)
  have hr3 := own_kept2 hr2 hg3 n2 (by decide)
  have ho2' := own_kept2 ho2 hg3 n2 (by decide)
  have set1 : ∀ j c, c < 3 → (j ≠ i ∨ c ≠ 0) → (xs.set (i * 3) (.string (mkText (kAt ls k i))))[j * 3 + c]? = xs[j * 3 + c]? := fun j c hc hne => List.getElem?_set_ne (by omega)
  have lies : ∀ j b, LiesV (xs.set (i * 3) (.string (mkText (kAt ls k i)))) j b → LiesV xs j b := fun j b ⟨v, hv, hb⟩ => ⟨v, by rw [set1 j 1 (by omega) (Or.inr (by omega)), set1 j 2 (by omega) (Or.inr (by omega))] at hv; exact hv, hb⟩
  refine ⟨⟨hr3, h.top, fun j hj => ?_, fun j b hj hl => h.lie j b hj (lies j b hl), fun a j b haj hj h1 h2 => h.dis a j b haj hj (lies a b h1) (lies j b h2)⟩, fun b hb hbl => ?_⟩
  · by_cases e : j = i
    · subst e
      refine ⟨vt, vn, _, _, (set1 j 1 (by omega) (Or.inr (by omega))).trans ht, (set1 j 2 (by omega) (Or.inr (by omega))).trans hn, ho2', ho3, fun _ => ⟨?_, rfl, rfl⟩⟩
      rw [List.getElem?_set_self (by omega)]
    · obtain ⟨ut, un, T, N, p1, p2, p3, p4, p5⟩ := h.val j hj
      have nv : ∀ v, LiesV xs i v → ¬ LiesV xs j v := fun v hv hw => by
        rcases Nat.lt_or_gt_of_ne e with hlt | hgt
        · exact h.dis j i v hlt hi' hw hv
        · exact h.dis i j v hgt hj hv hw
      have k3 : w3.ownsRow lo 9 1 ut (ls.getD j (0, 0)).1 T := by
        have s1 := tg p3 (by decide)
        have s2 : w2.ownsRow lo 9 1 ut (ls.getD j (0, 0)).1 T := s1.kept hg2 (by
          cases hu : ut.ownBlock with
          | none => exact Or.inl rfl
          | some b => exact Or.inr fun e2 => nv b ⟨vt, Or.inl ht, e2.symm⟩ ⟨ut, Or.inl p1, hu⟩)
        exact own_kept2 s2 hg3 n2 (by decide)
      have k4 : w3.ownsRow lo 3 1 un (ls.getD j (0, 0)).2 N := by
        have s1 := tg p4 (by decide)
        have s2 := own_kept2 s1 hg2 t1 (by decide)
        exact s2.kept hg3 (by
          cases hu : un.ownBlock with
          | none => exact Or.inl rfl
          | some b => exact Or.inr fun e2 => nv b ⟨vn, Or.inr hn, e2.symm⟩ ⟨un, Or.inr p2, hu⟩)
      refine ⟨ut, un, T, N, (set1 j 1 (by omega) (Or.inl e)).trans p1, (set1 j 2 (by omega) (Or.inl e)).trans p2, k3, k4, fun hji => ?_⟩
      have o0 := set1 j 0 (by omega) (Or.inl e)
      have r := p5 (by omega)
      exact ⟨o0.trans r.1, r.2⟩
  · have b1 : b ≠ g := by omega
    have b2 : some b ≠ vt.ownBlock := fun e => by have := h.lie i b hi' ⟨vt, Or.inl ht, e.symm⟩; omega
    have b3 : some b ≠ vn.ownBlock := fun e => by have := h.lie i b hi' ⟨vn, Or.inr hn, e.symm⟩; omega
    rw [hg3.block b (by have := hg2.size; omega) b3, hg2.block b (by omega) b2, oth b b1]
end Go.Proofs.YtefhmbnhhkgifaaDoor
