import Derived.Test.YtcnjmjcbhelkhaaMergeHitsJ16
namespace Go.Proofs.Ytcnjmjcbhelkhaa
open Go Go.RowKit
set_option linter.unusedVariables false
set_option maxRecDepth 100000
set_option linter.unusedSimpArgs false

/-! The law's copies: rows of hits. -/
theorem setTri (zs xs : List Value) (k n : Nat) (u v x : Value) (hz : zs.length = k * 3) (hx : xs.length = n * 3) (hk : k < n) : (((zs ++ xs.drop (k * 3)).set (k * 3) u).set (k * 3 + 1) v).set (k * 3 + 2) x = (zs ++ [u, v, x]) ++ xs.drop ((k + 1) * 3) := by
  have hd : xs.drop (k * 3) = xs[k * 3] :: xs[k * 3 + 1] :: xs[k * 3 + 2] :: xs.drop ((k + 1) * 3) := by
    rw [List.drop_eq_getElem_cons (by omega), List.drop_eq_getElem_cons (by omega), List.drop_eq_getElem_cons (by omega)]
    congr 3
    congr 1
    omega
  rw [hd, List.set_append_right _ _ (by omega), hz, Nat.sub_self, List.set_cons_zero, List.set_append_right _ _ (by omega), hz, Nat.add_sub_cancel_left, List.set_cons_succ, List.set_cons_zero, List.set_append_right _ _ (by omega), hz, Nat.add_sub_cancel_left, List.set_cons_succ, List.set_cons_succ, List.set_cons_zero]
  simp
/-- One hit, as three cells tell it, its sort values behind B. -/
def FdAt (w : World) (B : Nat) (c0 c1 c2 : Option Value) (v : Fd) : Prop := c0 = some (.string (bs v.1)) ∧ c1 = some (.int .i64 v.2.1) ∧ ∃ gn cn, c2 = some (.slice (some ⟨gn, 0, none⟩) v.2.2.length cn) ∧ B < gn ∧ RowNz w gn v.2.2
theorem FdAt.keep {w w' : World} {B : Nat} {c0 c1 c2 : Option Value} {v : Fd} (h : FdAt w B c0 c1 c2 v) (hk : ∀ b, B < b → b < w.heap.size → w'.heap[b]? = w.heap[b]?) : FdAt w' B c0 c1 c2 v := by
  obtain ⟨h0, h1, gn, cn, h4, h5, h6⟩ := h
  exact ⟨h0, h1, gn, cn, h4, h5, h6.keep (hk gn h5 h6.lt)⟩
def FsAt (w : World) (g : Nat) (V : List Fd) : Prop := ∃ cs, w.heap[g]? = some (Obj.cells cs 47) ∧ V.length * 3 ≤ cs.size ∧ ∀ j, j < V.length → FdAt w g cs[j * 3]? cs[j * 3 + 1]? cs[j * 3 + 2]? (V.getD j fd0)
theorem FsAt.lt {w : World} {g : Nat} {V : List Fd} (h : FsAt w g V) : g < w.heap.size := by
  obtain ⟨cs, h1, _⟩ := h
  exact (Array.getElem?_eq_some_iff.1 h1).1
theorem FsAt.keep {w w' : World} {g : Nat} {V : List Fd} (h : FsAt w g V) (hk : ∀ b, g ≤ b → b < w.heap.size → w'.heap[b]? = w.heap[b]?) : FsAt w' g V := by
  have hl := h.lt
  obtain ⟨cs, h1, h2, h3⟩ := h
  exact ⟨cs, (hk g (Nat.le_refl _) hl).trans h1, h2, fun j hj => (h3 j hj).keep fun b hb hb2 => hk b (by omega) hb2⟩
theorem FsAt.below {w w' : World} {g : Nat} {V : List Fd} (h : FsAt w g V) (hb : Below w.heap.size w w') : FsAt w' g V := h.keep fun b _ hb2 => hb.block b hb2
theorem FsAt.hold {w : World} {g : Nat} {V : List Fd} (h : FsAt w g V) : HoldFd w (some ⟨g, 0, none⟩) V := by
  have hl := h.lt
  obtain ⟨cs, h1, h2, h3⟩ := h
  refine Or.inr ⟨g, 0, rfl, hl, fun i hi => ?_⟩
  obtain ⟨q0, q1, gn, cn, q4, q5, q6⟩ := h3 i hi
  rw [Nat.zero_add, blkc h1, blkc h1, blkc h1]
  exact ⟨q0, q1, _, cn, q4, q6.hold⟩
def CellsF (w : World) (B : Nat) (zs : List Value) (V : List Fd) (k : Nat) : Prop := zs.length = k * 3 ∧ ∀ j, j < k → FdAt w B zs[j * 3]? zs[j * 3 + 1]? zs[j * 3 + 2]? (V.getD j fd0)
theorem CellsF.keep {w w' : World} {B : Nat} {zs : List Value} {V : List Fd} {k : Nat} (h : CellsF w B zs V k) (hk : ∀ b, B < b → b < w.heap.size → w'.heap[b]? = w.heap[b]?) : CellsF w' B zs V k := ⟨h.1, fun j hj => (h.2 j hj).keep hk⟩
theorem CellsF.snoc {w : World} {B : Nat} {zs : List Value} {V : List Fd} {k : Nat} {a b c : Value} (h : CellsF w B zs V k) (hv : FdAt w B (some a) (some b) (some c) (V.getD k fd0)) : CellsF w B (zs ++ [a, b, c]) V (k + 1) := by
  refine ⟨by rw [List.length_append, h.1]; simp; omega, fun j hj => ?_⟩
  have hl := h.1
  by_cases e : j = k
  · subst e
    rw [List.getElem?_append_right (by omega), List.getElem?_append_right (by omega), List.getElem?_append_right (by omega), hl, Nat.sub_self, show j * 3 + 1 - j * 3 = 1 by omega, show j * 3 + 2 - j * 3 = 2 by omega]
    exact hv
  · rw [List.getElem?_append_left (by omega), List.getElem?_append_left (by omega), List.getElem?_append_left (by omega)]
    exact h.2 j (by omega)
theorem fsAt_of {w : World} {base g : Nat} {V : List Fd} {zs : List Value} (h : w.ownsRow base 47 3 (.slice (some ⟨g, 0, none⟩) V.length V.length) V.length zs) (hc : CellsF w g zs V V.length) : FsAt w g V := by
  rcases h.2 with ⟨h', _⟩ | ⟨g', cap, cur, h', _, hg, hc1, hc2, hc3, hc4⟩
  · simp at h'
  · simp only [Value.slice.injEq, Option.some.injEq, Addr.mk.injEq, and_true, true_and] at h'
    obtain ⟨rfl, rfl⟩ := h'
    refine ⟨cur, hg, by omega, fun j hj => ?_⟩
    have e : ∀ i, i < V.length * 3 → cur[i]? = zs[i]? := fun i hi => by
      have := h.cellAt i (by omega)
      rw [blkc hg] at this
      exact this
    rw [e _ (by omega), e _ (by omega), e _ (by omega)]
    exact hc.2 j hj
set_option maxHeartbeats 4000000 in
theorem toFoundS_any (a : Option Addr) (cap : Nat) (V : List Fd) (w : World) (hn : V.length ≤ 1048576) (hA : ∀ i, (V.getD i fd0).2.2.length ≤ 1048576) (hS : HoldFd w a V) :
    Calls Try.prog 20 #[.slice a V.length cap] w fun e w' => e = .returned (.slice (some ⟨w.heap.size, 0, none⟩) V.length V.length) ∧ FsAt w' w.heap.size V ∧ Below w.heap.size w w' := by
  obtain ⟨i0, hi, hz0, hz1, hz2⟩ := info_parts Try.infoFd
  have HS := hidd hS
  have HA := hidd hA
  clear hS hA
  go_enter Try.func20, Try.ntmps20
  go_wp2_with (at_make; refine wpList_make_full _ rfl _ _ 26 rfl w.heap.size 47 i0 (.agg #[.string ⟨#[]⟩, .int .i64 0, .slice none 0 0]) 3 Try.underlying26 hi hz0 hz1 _ _ _ _ V.length rfl rfl (by omega) (by omega) ?b2 ?b3 (Nat.le_refl _) ?_)
  case b2 => (first | omega | (rw [hz2]; omega))
  case b3 => unfold maxLen; omega
  intro w0 hown0 hgrow0
  generalize (madeCells #[.string ⟨#[]⟩, .int .i64 0, .slice none 0 0] (V.length * 3)).toList = xs at hown0
  have hxl : xs.length = V.length * 3 := by have := hown0.1; omega
  have HO0 := hidd hown0
  have HB0 : Hid (Below w.heap.size w w0) := (Below.refl _ _).grown hgrow0 (Nat.le_refl _) (fun k h => by cases h)
  clear hown0 hgrow0
  go_wp2
  go_loopw [4] (fun i wr => ∃ (k : Nat) (zs : List Value), k ≤ V.length ∧ i = .int .i64 k ∧ wr.ownsRow w.heap.size 47 3 (.slice (some ⟨w.heap.size, 0, none⟩) V.length V.length) V.length (zs ++ xs.drop (k * 3)) ∧ CellsF wr w.heap.size zs V k ∧ Below w.heap.size w wr) (fun i _ => V.length - (intOf i).toNat)
  case atStart => exact ⟨0, [], Nat.zero_le _, rfl, HO0.out, ⟨rfl, fun j hj => absurd hj (by omega)⟩, HB0.out⟩
  case round =>
    obtain ⟨k, zs, hk, rfl, hown, hcs, hbel⟩ := hrel
    have HO := hidd hown
    have HB := hidd hbel
    have HC := hidd hcs
    have hrl : w.heap.size < wr.heap.size := own3_lt hown
    clear hcs
    by_cases hlt : k < V.length
    · obtain ⟨b, off, rfl, hbl, hc⟩ := (HS.out.below hbel).resolve_left (fun h => by rw [h] at hlt; simp at hlt)
      obtain ⟨c0, c1, an, cn, c2, hZ⟩ := hc k hlt
      have hal := HA.out k
      clear hown hbel hc
      obtain ⟨s, hs⟩ : ∃ s, V.getD k fd0 = s := ⟨_, rfl⟩
      rw [hs] at c0 c1 c2 hZ hal
      have Hks := hidd hs
      clear hs
      obtain ⟨f, z, nz⟩ := s
      dsimp only at c0 c1 c2 hZ hal
      have HV := hidd (toFound_any f z an cn nz wr hal hZ)
      clear hZ
      go_wp2_with fail
      refine HV.out.mono ?_
      rintro e w2 ⟨gn, rfl, hgn, hrn, hb2⟩
      have hown2 := own3_below HO.out hb2
      have HB2 := hidd (HB.out.trans (hb2.mono HB.out.size))
      have HC2 := hidd (CellsF.snoc (a := .string (bs f)) (b := .int .i64 z) (c := .slice (some ⟨gn, 0, none⟩) nz.length nz.length) (HC.out.keep fun x _ hx => hb2.block x hx) (by rw [Hks.out]; exact ⟨rfl, rfl, gn, _, rfl, by omega, hrn⟩))
      have f1 := hown2.frozenAt (k * 3)
      have f2 := hown2.frozenAt (k * 3 + 1)
      have f3 := hown2.frozenAt (k * 3 + 2)
      have hzl := HC.out.1
      have hlen : (zs ++ xs.drop (k * 3)).length = V.length * 3 := by rw [List.length_append, hzl, List.length_drop]; omega
      have hex : ∀ j, j < V.length * 3 → ∃ u, w2.cell? ⟨w.heap.size, j, none⟩ = some u := fun j hj => by
        rw [hown2.cellAt j hj]
        exact ⟨_, List.getElem?_eq_getElem (by omega)⟩
      obtain ⟨u1, q1⟩ := hex (k * 3) (by omega)
      obtain ⟨u2, q2⟩ := hex (k * 3 + 1) (by omega)
      obtain ⟨u3, q3⟩ := hex (k * 3 + 2) (by omega)
      have HO2 := hidd hown2
      have HSet := hidd (setTri zs xs k V.length (.string (bs f)) (.int .i64 z) (.slice (some ⟨gn, 0, none⟩) nz.length nz.length) hzl hxl hlt)
      clear hown2 hb2 hex hlen HO HB c0 c1 c2 HC HV hrn
      go_wp2
      go_roundw
      case rel =>
        have s0 := HO2.out.stored (k * 3) (.string (bs f))
        have s1 := s0.1.stored (k * 3 + 1) (.int .i64 z)
        have s2 := s1.1.stored (k * 3 + 2) (.slice (some ⟨gn, 0, none⟩) nz.length nz.length)
        have st := s2.1
        rw [HSet.out] at st
        refine ⟨k + 1, _, by omega, by go_num, st, HC2.out.keep (fun x hx _ => ?_), ((HB2.out.setCell (p := ⟨w.heap.size, k * 3, none⟩) (Nat.le_refl _) _).setCell (p := ⟨w.heap.size, k * 3 + 1, none⟩) (Nat.le_refl _) _).setCell (p := ⟨w.heap.size, k * 3 + 2, none⟩) (Nat.le_refl _) _⟩
        rw [heap_set_other _ _ _ _ _ (by omega), heap_set_other _ _ _ _ _ (by omega), heap_set_other _ _ _ _ _ (by omega)]
      case measure => simp [intOf]; omega
    · obtain rfl : k = V.length := by omega
      have HF := HO.out
      rw [List.drop_of_length_le (by omega), List.append_nil] at HF
      have HD := hidd (fsAt_of HF HC.out)
      clear HF hown hbel
      go_wp2
      go_ret
      exact ⟨rfl, HD.out, HB.out⟩
end Go.Proofs.Ytcnjmjcbhelkhaa

namespace Go.Proofs.Ytcnjmjcbhelkhaa
open Go Go.RowKit
set_option linter.unusedVariables false
set_option maxRecDepth 100000
set_option linter.unusedSimpArgs false

/-! The law's copies: rows of rows of hits, and the sort keys. -/
theorem Try.infoFs : (Try.prog.info? 26).map (fun i => (i.zero, i.size, i.bytes)) = some (some (.slice none 0 0), 1, 24) := by kernel_rfl
theorem Try.infoSk : (Try.prog.info? 50).map (fun i => (i.zero, i.size, i.bytes)) = some (some (.agg #[.string ⟨#[]⟩, .bool false]), 2, 24) := by kernel_rfl
theorem ownN_below {w w' : World} {base e n s : Nat} {v : Value} {xs : List Value} (h : w.ownsRow base e s v n xs) (hb : Below w.heap.size w w') : w'.ownsRow base e s v n xs := own_congr h fun x hx => hb.block x (h.lt x hx).2
theorem setMono (zs xs : List Value) (k n : Nat) (u : Value) (hz : zs.length = k) (hx : xs.length = n) (hk : k < n) : (zs ++ xs.drop k).set k u = (zs ++ [u]) ++ xs.drop (k + 1) := by
  rw [List.drop_eq_getElem_cons (l := xs) (i := k) (by omega), List.set_append_right _ _ (by omega), hz, Nat.sub_self, List.set_cons_zero]
  simp
theorem setDuo (zs xs : List Value) (k n : Nat) (u v : Value) (hz : zs.length = k * 2) (hx : xs.length = n * 2) (hk : k < n) : ((zs ++ xs.drop (k * 2)).set (k * 2) u).set (k * 2 + 1) v = (zs ++ [u, v]) ++ xs.drop ((k + 1) * 2) := by
  have hd : xs.drop (k * 2) = xs[k * 2] :: xs[k * 2 + 1] :: xs.drop ((k + 1) * 2) := by
    rw [List.drop_eq_getElem_cons (by omega), List.drop_eq_getElem_cons (by omega)]
    congr 2
    congr 1
    omega
  rw [hd, List.set_append_right _ _ (by omega), hz, Nat.sub_self, List.set_cons_zero, List.set_append_right _ _ (by omega), hz, Nat.add_sub_cancel_left, List.set_cons_succ, List.set_cons_zero]
  simp
/-- One row, as a cell tells it, all of it behind B. -/
def RwAt (w : World) (B : Nat) (c : Option Value) (l : List Fd) : Prop := ∃ g cp, c = some (.slice (some ⟨g, 0, none⟩) l.length cp) ∧ l.length ≤ cp ∧ B < g ∧ FsAt w g l
theorem RwAt.keep {w w' : World} {B : Nat} {c : Option Value} {l : List Fd} (h : RwAt w B c l) (hk : ∀ b, B < b → b < w.heap.size → w'.heap[b]? = w.heap[b]?) : RwAt w' B c l := by
  obtain ⟨g, cp, h1, h2, h3, h4⟩ := h
  exact ⟨g, cp, h1, h2, h3, h4.keep fun b hb hb2 => hk b (by omega) hb2⟩
def FFAt (w : World) (g : Nat) (V : List (List Fd)) : Prop := ∃ cs, w.heap[g]? = some (Obj.cells cs 26) ∧ V.length ≤ cs.size ∧ ∀ j, j < V.length → RwAt w g cs[j]? (V.getD j [])
theorem FFAt.lt {w : World} {g : Nat} {V : List (List Fd)} (h : FFAt w g V) : g < w.heap.size := by
  obtain ⟨cs, h1, _⟩ := h
  exact (Array.getElem?_eq_some_iff.1 h1).1
theorem FFAt.keep {w w' : World} {g : Nat} {V : List (List Fd)} (h : FFAt w g V) (hk : ∀ b, g ≤ b → b < w.heap.size → w'.heap[b]? = w.heap[b]?) : FFAt w' g V := by
  have hl := h.lt
  obtain ⟨cs, h1, h2, h3⟩ := h
  exact ⟨cs, (hk g (Nat.le_refl _) hl).trans h1, h2, fun j hj => (h3 j hj).keep fun b hb hb2 => hk b (by omega) hb2⟩
theorem FFAt.below {w w' : World} {g : Nat} {V : List (List Fd)} (h : FFAt w g V) (hb : Below w.heap.size w w') : FFAt w' g V := h.keep fun b _ hb2 => hb.block b hb2
theorem FFAt.hold {w : World} {g : Nat} {V : List (List Fd)} (h : FFAt w g V) : HoldFF w (some ⟨g, 0, none⟩) V := by
  have hl := h.lt
  obtain ⟨cs, h1, h2, h3⟩ := h
  refine Or.inr ⟨g, 0, rfl, hl, fun i hi => ?_⟩
  obtain ⟨gr, cp, q1, q2, q3, q4⟩ := h3 i hi
  rw [Nat.zero_add, blkc h1]
  exact ⟨_, cp, q1, q2, q4.hold⟩
def CellsW (w : World) (B : Nat) (zs : List Value) (V : List (List Fd)) (k : Nat) : Prop := zs.length = k ∧ ∀ j, j < k → RwAt w B zs[j]? (V.getD j [])
theorem CellsW.keep {w w' : World} {B : Nat} {zs : List Value} {V : List (List Fd)} {k : Nat} (h : CellsW w B zs V k) (hk : ∀ b, B < b → b < w.heap.size → w'.heap[b]? = w.heap[b]?) : CellsW w' B zs V k := ⟨h.1, fun j hj => (h.2 j hj).keep hk⟩
theorem CellsW.snoc {w : World} {B : Nat} {zs : List Value} {V : List (List Fd)} {k : Nat} {a : Value} (h : CellsW w B zs V k) (hv : RwAt w B (some a) (V.getD k [])) : CellsW w B (zs ++ [a]) V (k + 1) := by
  refine ⟨by rw [List.length_append, h.1]; simp, fun j hj => ?_⟩
  have hl := h.1
  by_cases e : j = k
  · subst e
    rw [List.getElem?_append_right (by omega), hl, Nat.sub_self]
    exact hv
  · rw [List.getElem?_append_left (by omega)]
    exact h.2 j (by omega)
theorem ffAt_of {w : World} {base g : Nat} {V : List (List Fd)} {zs : List Value} (h : w.ownsRow base 26 1 (.slice (some ⟨g, 0, none⟩) V.length V.length) V.length zs) (hc : CellsW w g zs V V.length) : FFAt w g V := by
  rcases h.2 with ⟨h', _⟩ | ⟨g', cap, cur, h', _, hg, hc1, hc2, hc3, hc4⟩
  · simp at h'
  · simp only [Value.slice.injEq, Option.some.injEq, Addr.mk.injEq, and_true, true_and] at h'
    obtain ⟨rfl, rfl⟩ := h'
    refine ⟨cur, hg, by omega, fun j hj => ?_⟩
    have e : ∀ i, i < V.length * 1 → cur[i]? = zs[i]? := fun i hi => by
      have := h.cellAt i (by omega)
      rw [blkc hg] at this
      exact this
    rw [e _ (by omega)]
    exact hc.2 j hj
set_option maxHeartbeats 4000000 in
theorem toFoundSS_any (a : Option Addr) (cap : Nat) (V : List (List Fd)) (w : World) (hn : V.length ≤ 1048576) (hA : ∀ i, (V.getD i []).length ≤ 1048576 ∧ ∀ j, ((V.getD i []).getD j fd0).2.2.length ≤ 1048576) (hS : HoldFF w a V) :
    Calls Try.prog 7 #[.slice a V.length cap] w fun e w' => e = .returned (.slice (some ⟨w.heap.size, 0, none⟩) V.length V.length) ∧ FFAt w' w.heap.size V ∧ Below w.heap.size w w' := by
  obtain ⟨i0, hi, hz0, hz1, hz2⟩ := info_parts Try.infoFs
  have HS := hidd hS
  have HA := hidd hA
  clear hS hA
  go_enter Try.func7, Try.ntmps7
  go_wp2_with (at_make; refine wpList_make_full _ rfl _ _ 29 rfl w.heap.size 26 i0 (.slice none 0 0) 1 Try.underlying29 hi hz0 hz1 _ _ _ _ V.length rfl rfl (by omega) (by omega) ?b2 ?b3 (Nat.le_refl _) ?_)
  case b2 => (first | omega | (rw [hz2]; omega))
  case b3 => unfold maxLen; omega
  intro w0 hown0 hgrow0
  generalize (madeCells #[Value.slice none 0 0] V.length).toList = xs at hown0
  have hxl : xs.length = V.length := by have := hown0.1; omega
  have HO0 := hidd hown0
  have HB0 : Hid (Below w.heap.size w w0) := (Below.refl _ _).grown hgrow0 (Nat.le_refl _) (fun k h => by cases h)
  clear hown0 hgrow0
  go_wp2
  go_loopw [4] (fun i wr => ∃ (k : Nat) (zs : List Value), k ≤ V.length ∧ i = .int .i64 k ∧ wr.ownsRow w.heap.size 26 1 (.slice (some ⟨w.heap.size, 0, none⟩) V.length V.length) V.length (zs ++ xs.drop k) ∧ CellsW wr w.heap.size zs V k ∧ Below w.heap.size w wr) (fun i _ => V.length - (intOf i).toNat)
  case atStart => exact ⟨0, [], Nat.zero_le _, rfl, HO0.out, ⟨rfl, fun j hj => absurd hj (by omega)⟩, HB0.out⟩
  case round =>
    obtain ⟨k, zs, hk, rfl, hown, hcs, hbel⟩ := hrel
    have HO := hidd hown
    have HB := hidd hbel
    have HC := hidd hcs
    have hrl : w.heap.size < wr.heap.size := (hown.lt w.heap.size rfl).2
    clear hcs
    by_cases hlt : k < V.length
    · obtain ⟨b, off, rfl, hbl, hc⟩ := (HS.out.below hbel).resolve_left (fun h => by rw [h] at hlt; simp at hlt)
      obtain ⟨ra, rc, c0, hrc, hFd⟩ := hc k hlt
      have hal := HA.out k
      clear hown hbel hc hrc
      obtain ⟨s, hs⟩ : ∃ s, V.getD k [] = s := ⟨_, rfl⟩
      rw [hs] at c0 hFd hal
      have Hks := hidd hs
      clear hs
      have HV := hidd (toFoundS_any ra rc s wr hal.1 hal.2 hFd)
      clear hFd
      go_wp2_with fail
      refine HV.out.mono ?_
      rintro e w2 ⟨rfl, hrn, hb2⟩
      have hown2 := ownN_below HO.out hb2
      have HB2 := hidd (HB.out.trans (hb2.mono HB.out.size))
      obtain ⟨G, hG⟩ : ∃ G, wr.heap.size = G := ⟨_, rfl⟩
      rw [hG] at hrn ⊢
      have HC2 := hidd (CellsW.snoc (a := .slice (some ⟨G, 0, none⟩) s.length s.length) (HC.out.keep fun x _ hx => hb2.block x hx) (by rw [Hks.out]; exact ⟨G, _, rfl, Nat.le_refl _, by omega, hrn⟩))
      have f1 := hown2.frozenAt k
      have hzl := HC.out.1
      have hlen : (zs ++ xs.drop k).length = V.length := by rw [List.length_append, hzl, List.length_drop]; omega
      have hex : ∀ j, j < V.length → ∃ u, w2.cell? ⟨w.heap.size, j, none⟩ = some u := fun j hj => by
        rw [hown2.cellAt j (by omega)]
        exact ⟨_, List.getElem?_eq_getElem (by omega)⟩
      obtain ⟨u1, q1⟩ := hex k (by omega)
      have HO2 := hidd hown2
      have HSet := hidd (setMono zs xs k V.length (.slice (some ⟨G, 0, none⟩) s.length s.length) hzl hxl hlt)
      clear hown2 hb2 hex hlen HO HB c0 HC HV hrn hG
      dsimp only
      go_wp2
      go_roundw
      case rel =>
        have s0 := HO2.out.stored k (.slice (some ⟨G, 0, none⟩) s.length s.length)
        have st := s0.1
        rw [HSet.out] at st
        refine ⟨k + 1, _, by omega, by go_num, st, HC2.out.keep (fun x hx _ => ?_), HB2.out.setCell (p := ⟨w.heap.size, k, none⟩) (Nat.le_refl _) _⟩
        rw [heap_set_other _ _ _ _ _ (by omega)]
      case measure => simp [intOf]; omega
    · obtain rfl : k = V.length := by omega
      have HF := HO.out
      rw [List.drop_of_length_le (by omega), List.append_nil] at HF
      have HD := hidd (ffAt_of HF HC.out)
      clear HF hown hbel
      go_wp2
      go_ret
      exact ⟨rfl, HD.out, HB.out⟩
end Go.Proofs.Ytcnjmjcbhelkhaa

namespace Go.Proofs.Ytcnjmjcbhelkhaa
open Go Go.RowKit
set_option linter.unusedVariables false
set_option maxRecDepth 100000
set_option linter.unusedSimpArgs false

/-! The law's copies: sort keys. -/
def KyAt (c0 c1 : Option Value) (v : Tx × Bool) : Prop := c0 = some (.string (bs v.1)) ∧ c1 = some (.bool v.2)
def SkAt (w : World) (g : Nat) (V : List (Tx × Bool)) : Prop := ∃ cs, w.heap[g]? = some (Obj.cells cs 50) ∧ V.length * 2 ≤ cs.size ∧ ∀ j, j < V.length → KyAt cs[j * 2]? cs[j * 2 + 1]? (V.getD j ([], false))
theorem SkAt.lt {w : World} {g : Nat} {V : List (Tx × Bool)} (h : SkAt w g V) : g < w.heap.size := by
  obtain ⟨cs, h1, _⟩ := h
  exact (Array.getElem?_eq_some_iff.1 h1).1
theorem SkAt.keep {w w' : World} {g : Nat} {V : List (Tx × Bool)} (h : SkAt w g V) (hk : w'.heap[g]? = w.heap[g]?) : SkAt w' g V := by
  obtain ⟨cs, h1, h2, h3⟩ := h
  exact ⟨cs, hk.trans h1, h2, h3⟩
theorem SkAt.below {w w' : World} {g : Nat} {V : List (Tx × Bool)} (h : SkAt w g V) (hb : Below w.heap.size w w') : SkAt w' g V := h.keep (hb.block g h.lt)
theorem SkAt.hold {w : World} {g : Nat} {V : List (Tx × Bool)} (h : SkAt w g V) : HoldSK w (some ⟨g, 0, none⟩) V := by
  have hl := h.lt
  obtain ⟨cs, h1, h2, h3⟩ := h
  refine Or.inr ⟨g, 0, rfl, hl, fun i hi => ?_⟩
  rw [Nat.zero_add, blkc h1, blkc h1]
  exact h3 i hi
def CellsK (zs : List Value) (V : List (Tx × Bool)) (k : Nat) : Prop := zs.length = k * 2 ∧ ∀ j, j < k → KyAt zs[j * 2]? zs[j * 2 + 1]? (V.getD j ([], false))
theorem CellsK.snoc {zs : List Value} {V : List (Tx × Bool)} {k : Nat} {a b : Value} (h : CellsK zs V k) (hv : KyAt (some a) (some b) (V.getD k ([], false))) : CellsK (zs ++ [a, b]) V (k + 1) := by
  refine ⟨by rw [List.length_append, h.1]; simp; omega, fun j hj => ?_⟩
  have hl := h.1
  by_cases e : j = k
  · subst e
    rw [List.getElem?_append_right (by omega), List.getElem?_append_right (by omega), hl, Nat.sub_self, show j * 2 + 1 - j * 2 = 1 by omega]
    exact hv
  · rw [List.getElem?_append_left (by omega), List.getElem?_append_left (by omega)]
    exact h.2 j (by omega)
theorem skAt_of {w : World} {base g : Nat} {V : List (Tx × Bool)} {zs : List Value} (h : w.ownsRow base 50 2 (.slice (some ⟨g, 0, none⟩) V.length V.length) V.length zs) (hc : CellsK zs V V.length) : SkAt w g V := by
  rcases h.2 with ⟨h', _⟩ | ⟨g', cap, cur, h', _, hg, hc1, hc2, hc3, hc4⟩
  · simp at h'
  · simp only [Value.slice.injEq, Option.some.injEq, Addr.mk.injEq, and_true, true_and] at h'
    obtain ⟨rfl, rfl⟩ := h'
    refine ⟨cur, hg, by omega, fun j hj => ?_⟩
    have e : ∀ i, i < V.length * 2 → cur[i]? = zs[i]? := fun i hi => by
      have := h.cellAt i (by omega)
      rw [blkc hg] at this
      exact this
    rw [e _ (by omega), e _ (by omega)]
    exact hc.2 j hj
set_option maxHeartbeats 2000000 in
theorem toSortKey_any (f : Tx) (d : Bool) (w : World) :
    Calls Try.prog 21 #[.agg #[.string (bs f), .bool d]] w fun e w' => e = .returned (.agg #[.string (bs f), .bool d]) ∧ Below w.heap.size w w' := by
  generalize bs f = fs
  have HB : Hid (∀ o1 o2 o3 : Obj, Below w.heap.size w (((w.alloc o1).alloc o2).alloc o3)) := fun o1 o2 o3 => (((Below.refl _ _).alloc (Nat.le_refl _) _).alloc (by simp) _).alloc (by simp; omega) _
  go_enter Try.func21, Try.ntmps21
  go_wp2_with fail
  refine bodyPost_ret (v := .agg #[.string fs, .bool d]) (by simp [results, Try.results21, go_sem]) rfl ?_
  exact ⟨rfl, HB.out _ _ _⟩
set_option maxHeartbeats 4000000 in
theorem toSortKeyS_any (a : Option Addr) (cap : Nat) (V : List (Tx × Bool)) (w : World) (hn : V.length ≤ 1048576) (hS : HoldSK w a V) :
    Calls Try.prog 8 #[.slice a V.length cap] w fun e w' => e = .returned (.slice (some ⟨w.heap.size, 0, none⟩) V.length V.length) ∧ SkAt w' w.heap.size V ∧ Below w.heap.size w w' := by
  obtain ⟨i0, hi, hz0, hz1, hz2⟩ := info_parts Try.infoSk
  have HS := hidd hS
  clear hS
  go_enter Try.func8, Try.ntmps8
  go_wp2_with (at_make; refine wpList_make_full _ rfl _ _ 31 rfl w.heap.size 50 i0 (.agg #[.string ⟨#[]⟩, .bool false]) 2 Try.underlying31 hi hz0 hz1 _ _ _ _ V.length rfl rfl (by omega) (by omega) ?b2 ?b3 (Nat.le_refl _) ?_)
  case b2 => (first | omega | (rw [hz2]; omega))
  case b3 => unfold maxLen; omega
  intro w0 hown0 hgrow0
  generalize (madeCells #[.string ⟨#[]⟩, .bool false] (V.length * 2)).toList = xs at hown0
  have hxl : xs.length = V.length * 2 := by have := hown0.1; omega
  have HO0 := hidd hown0
  have HB0 : Hid (Below w.heap.size w w0) := (Below.refl _ _).grown hgrow0 (Nat.le_refl _) (fun k h => by cases h)
  clear hown0 hgrow0
  go_wp2
  go_loopw [4] (fun i wr => ∃ (k : Nat) (zs : List Value), k ≤ V.length ∧ i = .int .i64 k ∧ wr.ownsRow w.heap.size 50 2 (.slice (some ⟨w.heap.size, 0, none⟩) V.length V.length) V.length (zs ++ xs.drop (k * 2)) ∧ CellsK zs V k ∧ Below w.heap.size w wr) (fun i _ => V.length - (intOf i).toNat)
  case atStart => exact ⟨0, [], Nat.zero_le _, rfl, HO0.out, ⟨rfl, fun j hj => absurd hj (by omega)⟩, HB0.out⟩
  case round =>
    obtain ⟨k, zs, hk, rfl, hown, hcs, hbel⟩ := hrel
    have HO := hidd hown
    have HB := hidd hbel
    have HC := hidd hcs
    have hrl : w.heap.size < wr.heap.size := (hown.lt w.heap.size rfl).2
    clear hcs
    by_cases hlt : k < V.length
    · obtain ⟨b, off, rfl, hbl, hc⟩ := (HS.out.below hbel).resolve_left (fun h => by rw [h] at hlt; simp at hlt)
      obtain ⟨c0, c1⟩ := hc k hlt
      clear hown hbel hc
      obtain ⟨s, hs⟩ : ∃ s, V.getD k ([], false) = s := ⟨_, rfl⟩
      rw [hs] at c0 c1
      have Hks := hidd hs
      clear hs
      obtain ⟨f, d⟩ := s
      dsimp only at c0 c1
      have HV := hidd (toSortKey_any f d wr)
      go_wp2_with fail
      refine HV.out.mono ?_
      rintro e w2 ⟨rfl, hb2⟩
      have hown2 := ownN_below HO.out hb2
      have HB2 := hidd (HB.out.trans (hb2.mono HB.out.size))
      have HC2 := hidd (CellsK.snoc (a := .string (bs f)) (b := .bool d) HC.out (by rw [Hks.out]; exact ⟨rfl, rfl⟩))
      have f1 := hown2.frozenAt (k * 2)
      have f2 := hown2.frozenAt (k * 2 + 1)
      have hzl := HC.out.1
      have hlen : (zs ++ xs.drop (k * 2)).length = V.length * 2 := by rw [List.length_append, hzl, List.length_drop]; omega
      have hex : ∀ j, j < V.length * 2 → ∃ u, w2.cell? ⟨w.heap.size, j, none⟩ = some u := fun j hj => by
        rw [hown2.cellAt j (by omega)]
        exact ⟨_, List.getElem?_eq_getElem (by omega)⟩
      obtain ⟨u1, q1⟩ := hex (k * 2) (by omega)
      obtain ⟨u2, q2⟩ := hex (k * 2 + 1) (by omega)
      have HO2 := hidd hown2
      have HSet := hidd (setDuo zs xs k V.length (.string (bs f)) (.bool d) hzl hxl hlt)
      clear hown2 hb2 hex hlen HO HB c0 c1 HC HV
      dsimp only
      go_wp2
      go_roundw
      case rel =>
        have s0 := HO2.out.stored (k * 2) (.string (bs f))
        have st := (s0.1.stored (k * 2 + 1) (.bool d)).1
        rw [HSet.out] at st
        exact ⟨k + 1, _, by omega, by go_num, st, HC2.out, (HB2.out.setCell (p := ⟨w.heap.size, k * 2, none⟩) (Nat.le_refl _) _).setCell (p := ⟨w.heap.size, k * 2 + 1, none⟩) (Nat.le_refl _) _⟩
      case measure => simp [intOf]; omega
    · obtain rfl : k = V.length := by omega
      have HF := HO.out
      rw [List.drop_of_length_le (by omega), List.append_nil] at HF
      have HD := hidd (skAt_of HF HC.out)
      clear HF hown hbel
      go_wp2
      go_ret
      exact ⟨rfl, HD.out, HB.out⟩
end Go.Proofs.Ytcnjmjcbhelkhaa
