import Derived.Handy
import Derived.Test.YtjndogajdlophaaDcM
namespace Go.Proofs.Ytjndogajdlophaa
open Go Go.RowKit
set_option linter.unusedVariables false

theorem Try.infoArc : (Try.prog.info? 110).map (fun i => (i.zero, i.size, i.bytes)) = some (some (.agg #[.int .i64 0, .int .i64 0, .int .i64 0]), 3, 24) := by kernel_rfl
def aCells (l : List Ar) : List Value := l.flatMap fun a => [.int .i64 a.1, .int .i64 a.2.1, .int .i64 a.2.2]
theorem aCells_len : ∀ l : List Ar, (aCells l).length = l.length * 3
  | [] => rfl
  | y :: t => by have := aCells_len t; simp only [aCells, List.flatMap_cons, List.length_append, List.length_cons, List.length_nil] at *; omega
theorem aCells_snoc (l : List Ar) (y : Ar) : aCells (l ++ [y]) = aCells l ++ [.int .i64 y.1, .int .i64 y.2.1, .int .i64 y.2.2] := by simp [aCells]
theorem aCells_at : ∀ (l : List Ar) (k : Nat), k < l.length → (aCells l)[k * 3]? = some (.int .i64 (l.getD k ar0).1) ∧ (aCells l)[k * 3 + 1]? = some (.int .i64 (l.getD k ar0).2.1) ∧ (aCells l)[k * 3 + 2]? = some (.int .i64 (l.getD k ar0).2.2)
  | y :: t, 0, _ => ⟨rfl, rfl, rfl⟩
  | y :: t, k + 1, h => by
    have ih := aCells_at t k (by simpa using h)
    have e : aCells (y :: t) = [.int .i64 y.1, .int .i64 y.2.1, .int .i64 y.2.2] ++ aCells t := by simp [aCells]
    rw [e, List.getElem?_append_right (by simp; omega), List.getElem?_append_right (by simp; omega), List.getElem?_append_right (by simp; omega)]
    simp only [List.length_cons, List.length_nil, List.getD_cons_succ]
    rw [show (k + 1) * 3 - (0 + 1 + 1 + 1) = k * 3 by omega, show (k + 1) * 3 + 1 - (0 + 1 + 1 + 1) = k * 3 + 1 by omega, show (k + 1) * 3 + 2 - (0 + 1 + 1 + 1) = k * 3 + 2 by omega]
    exact ih
theorem aSet (l : List Ar) (k : Nat) (xs : List Value) (hl : xs.length = l.length * 3) (hk : k < l.length) : (((aCells (l.take k) ++ xs.drop (k * 3)).set (k * 3) (.int .i64 (l.getD k ar0).1)).set (k * 3 + 1) (.int .i64 (l.getD k ar0).2.1)).set (k * 3 + 2) (.int .i64 (l.getD k ar0).2.2) = aCells (l.take (k + 1)) ++ xs.drop ((k + 1) * 3) := by
  have e : (aCells (l.take k)).length = k * 3 := by rw [aCells_len, List.length_take]; omega
  have d1 : xs.drop (k * 3) = xs[k * 3]'(by omega) :: xs[k * 3 + 1]'(by omega) :: xs[k * 3 + 2]'(by omega) :: xs.drop ((k + 1) * 3) := by
    rw [List.drop_eq_getElem_cons (by omega : k * 3 < xs.length), List.drop_eq_getElem_cons (by omega : k * 3 + 1 < xs.length), List.drop_eq_getElem_cons (by omega : k * 3 + 2 < xs.length), show k * 3 + 2 + 1 = (k + 1) * 3 by omega]
  rw [List.set_append_right _ _ (by omega), e, Nat.sub_self, d1, List.set_cons_zero, List.set_append_right _ _ (by omega), e, show k * 3 + 1 - k * 3 = 1 by omega, List.set_append_right _ _ (by omega), e, show k * 3 + 2 - k * 3 = 2 by omega, List.take_succ_eq_append_getElem hk, aCells_snoc, List.append_assoc]
  simp [hk]
theorem own3_lt {w : World} {base e g n cap : Nat} {xs : List Value} (h : w.ownsRow base e 3 (.slice (some ⟨g, 0, none⟩) n cap) n xs) : g < w.heap.size := by
  rcases h.2 with ⟨h', _⟩ | ⟨g', cap', cur, h', _, hg, _⟩
  · simp at h'
  · simp only [Value.slice.injEq, Option.some.injEq, Addr.mk.injEq, and_true, true_and] at h'
    obtain ⟨rfl, rfl⟩ := h'
    exact (Array.getElem?_eq_some_iff.1 hg).1
theorem own3_below {w w' : World} {base e n : Nat} {v : Value} {xs : List Value} (h : w.ownsRow base e 3 v n xs) (hb : Below w.heap.size w w') : w'.ownsRow base e 3 v n xs := by
  refine ⟨h.1, ?_⟩
  rcases h.2 with h' | ⟨g, cap, cur, h1, h2, h3, h4⟩
  · exact Or.inl h'
  · exact Or.inr ⟨g, cap, cur, h1, h2, by rw [hb.block g (Array.getElem?_eq_some_iff.1 h3).1]; exact h3, h4⟩
theorem holdA_own {w : World} {base g cap : Nat} {l : List Ar} (h : w.ownsRow base 110 3 (.slice (some ⟨g, 0, none⟩) l.length cap) l.length (aCells l)) : HoldA w (some ⟨g, 0, none⟩) l :=
  Or.inr ⟨g, 0, rfl, own3_lt h, fun t ht => by
    rw [Nat.zero_add]
    have := aCells_at l t ht
    exact ⟨by rw [h.cellAt (t * 3) (by omega)]; exact this.1, by rw [h.cellAt (t * 3 + 1) (by omega)]; exact this.2.1, by rw [h.cellAt (t * 3 + 2) (by omega)]; exact this.2.2⟩⟩

set_option maxHeartbeats 2000000 in
theorem toArc_any (p0 p1 p2 : Int) (w : World) :
    Calls Try.prog 109 #[.agg #[.int .i64 p0, .int .i64 p1, .int .i64 p2]] w fun e w' => e = .returned (.agg #[.int .i64 p0, .int .i64 p1, .int .i64 p2]) ∧ Below w.heap.size w w' := by
  go_enter Try.func109, Try.ntmps109
  go_wp2
  go_returns
  refine ⟨rfl, ?_⟩
  repeat (first | exact Below.refl _ _ | refine Below.alloc ?_ (by simp; try omega) _ | refine Below.setCell ?_ (by simp; try omega) _)

set_option maxHeartbeats 4000000 in
theorem toArcs_any (a : Option Addr) (cap : Nat) (l : List Ar) (w : World) (hn : l.length ≤ 1048576) (hS : HoldA w a l) :
    Calls Try.prog 88 #[.slice a l.length cap] w fun e w' => e = .returned (.slice (some ⟨w.heap.size, 0, none⟩) l.length l.length) ∧
      w'.ownsRow w.heap.size 110 3 (.slice (some ⟨w.heap.size, 0, none⟩) l.length l.length) l.length (aCells l) ∧ Below w.heap.size w w' := by
  obtain ⟨i0, hi, hz0, hz1, hz2⟩ := info_parts Try.infoArc
  have HS := hidd hS
  clear hS
  go_enter Try.func88, Try.ntmps88
  go_wp2_with (at_make; refine wpList_make_full _ rfl _ _ 102 rfl w.heap.size 110 i0 (.agg #[.int .i64 0, .int .i64 0, .int .i64 0]) 3 Try.underlying102 hi hz0 hz1 _ _ _ _ l.length rfl rfl (by omega) (by omega) ?b2 ?b3 (Nat.le_refl _) ?_)
  case b2 => (first | omega | (rw [hz2]; omega))
  case b3 => unfold maxLen; omega
  intro w0 hown0 hgrow0
  generalize (madeCells #[.int .i64 0, .int .i64 0, .int .i64 0] (l.length * 3)).toList = xs at hown0
  have hxl : xs.length = l.length * 3 := by have := hown0.1; omega
  have HO0 := hidd hown0
  have HB0 : Hid (Below w.heap.size w w0) := (Below.refl _ _).grown hgrow0 (Nat.le_refl _) (fun k h => by cases h)
  clear hown0 hgrow0
  go_wp2
  go_loopw [4] (fun i wr => ∃ k : Nat, k ≤ l.length ∧ i = .int .i64 k ∧ wr.ownsRow w.heap.size 110 3 (.slice (some ⟨w.heap.size, 0, none⟩) l.length l.length) l.length (aCells (l.take k) ++ xs.drop (k * 3)) ∧ Below w.heap.size w wr) (fun i _ => l.length - (intOf i).toNat)
  case atStart => exact ⟨0, Nat.zero_le _, rfl, HO0.out, HB0.out⟩
  case round =>
    obtain ⟨k, hk, rfl, hown, hbel⟩ := hrel
    have HO := hidd hown
    have HB := hidd hbel
    by_cases hlt : k < l.length
    · obtain ⟨b, off, rfl, hbl, hc⟩ := HS.out.resolve_left (fun h => by rw [h] at hlt; simp at hlt)
      have g1 := (hbel.cell (p := ⟨b, off + k * 3, none⟩) hbl).trans (hc k hlt).1
      have g2 := (hbel.cell (p := ⟨b, off + k * 3 + 1, none⟩) hbl).trans (hc k hlt).2.1
      have HSet := hidd (aSet l k xs hxl hlt)
      have g3 := (hbel.cell (p := ⟨b, off + k * 3 + 2, none⟩) hbl).trans (hc k hlt).2.2
      obtain ⟨p, hp⟩ : ∃ p, l.getD k ar0 = p := ⟨_, rfl⟩
      rw [hp] at g1 g2 g3 HSet
      clear hp
      obtain ⟨f, t, r⟩ := p
      dsimp only at g1 g2 g3 HSet
      clear hown hbel hc
      go_wp2_with fail
      refine (toArc_any f t r _).mono ?_
      rintro e w2 ⟨rfl, hb2⟩
      have hown2 := own3_below HO.out hb2
      have HB2 := hidd (HB.out.trans (hb2.mono HB.out.size))
      have f1 := hown2.frozenAt (k * 3)
      have f2 := hown2.frozenAt (k * 3 + 1)
      have f3 := hown2.frozenAt (k * 3 + 2)
      have hlen : (aCells (l.take k) ++ xs.drop (k * 3)).length = l.length * 3 := by rw [List.length_append, aCells_len, List.length_take, List.length_drop]; omega
      have hex : ∀ j, j < l.length * 3 → ∃ u, w2.cell? ⟨w.heap.size, j, none⟩ = some u := fun j hj => by
        rw [hown2.cellAt j hj]
        exact ⟨_, List.getElem?_eq_getElem (by omega)⟩
      obtain ⟨u1, q1⟩ := hex (k * 3) (by omega)
      obtain ⟨u2, q2⟩ := hex (k * 3 + 1) (by omega)
      obtain ⟨u3, q3⟩ := hex (k * 3 + 2) (by omega)
      have HO2 := hidd hown2
      clear hown2 hb2 hex hlen HO HB g1 g2 g3
      go_wp2
      go_roundw
      case rel =>
        have s0 := HO2.out.stored (k * 3) (.int .i64 f)
        have s1 := s0.1.stored (k * 3 + 1) (.int .i64 t)
        have s2 := s1.1.stored (k * 3 + 2) (.int .i64 r)
        have st := s2.1
        rw [HSet.out] at st
        exact ⟨k + 1, by omega, by go_num, st, (HB2.out.setCell (p := ⟨w.heap.size, k * 3, none⟩) (Nat.le_refl _) _).setCell (p := ⟨w.heap.size, k * 3 + 1, none⟩) (Nat.le_refl _) _ |>.setCell (p := ⟨w.heap.size, k * 3 + 2, none⟩) (Nat.le_refl _) _⟩
      case measure => simp [intOf]; omega
    · have HF := HO.out
      rw [List.take_of_length_le (by omega), List.drop_of_length_le (by omega), List.append_nil] at HF
      have HF2 := hidd HF
      clear HF hown hbel
      go_wp2
      go_ret
      exact ⟨rfl, HF2.out, HB.out⟩

end Go.Proofs.Ytjndogajdlophaa
