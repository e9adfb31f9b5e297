import Derived.Test.YtefhmbnhhkgifaaDoorReadLogJ00
import Derived.Test.YtefhmbnhhkgifaaDoorReadLogJ08
namespace Go.Proofs.YtefhmbnhhkgifaaDoor
open Go Go.RowKit
set_option linter.unusedVariables false
set_option maxRecDepth 100000

abbrev Vl := List UInt8 × List (List UInt8) × List Int
abbrev Dc := List UInt8 × List Vl
def vl0 : Vl := ([], [], [])
/-- Texts, numbers, values, as they lie in a world. -/
def HoldTx (w : World) (a : Option Addr) (l : List (List UInt8)) : Prop := l = [] ∨ ∃ b off, a = some ⟨b, off, none⟩ ∧ b < w.heap.size ∧ ∀ i, i < l.length → w.cell? ⟨b, off + i, none⟩ = some (.string ⟨(l.getD i []).toArray⟩)
def HoldZ (w : World) (a : Option Addr) (l : List Int) : Prop := l = [] ∨ ∃ b off, a = some ⟨b, off, none⟩ ∧ b < w.heap.size ∧ ∀ i, i < l.length → w.cell? ⟨b, off + i, none⟩ = some (.int .i64 (l.getD i 0))
def HoldV (w : World) (a : Option Addr) (V : List Vl) : Prop := V = [] ∨ ∃ b off, a = some ⟨b, off, none⟩ ∧ b < w.heap.size ∧ ∀ i, i < V.length → w.cell? ⟨b, off + i * 3, none⟩ = some (.string ⟨(V.getD i vl0).1.toArray⟩) ∧
  (∃ at_ ct, w.cell? ⟨b, off + i * 3 + 1, none⟩ = some (.slice at_ (V.getD i vl0).2.1.length ct) ∧ HoldTx w at_ (V.getD i vl0).2.1) ∧ ∃ an cn, w.cell? ⟨b, off + i * 3 + 2, none⟩ = some (.slice an (V.getD i vl0).2.2.length cn) ∧ HoldZ w an (V.getD i vl0).2.2
theorem HoldTx.below {w w' : World} {a : Option Addr} {l : List (List UInt8)} (h : HoldTx w a l) (hb : Below w.heap.size w w') : HoldTx w' a l := by
  rcases h with h | ⟨b, off, ha, hbl, h⟩
  · exact Or.inl h
  · exact Or.inr ⟨b, off, ha, Nat.lt_of_lt_of_le hbl hb.size, fun i hi => (hb.cell (p := ⟨b, off + i, none⟩) hbl).trans (h i hi)⟩
theorem HoldZ.below {w w' : World} {a : Option Addr} {l : List Int} (h : HoldZ w a l) (hb : Below w.heap.size w w') : HoldZ w' a l := by
  rcases h with h | ⟨b, off, ha, hbl, h⟩
  · exact Or.inl h
  · exact Or.inr ⟨b, off, ha, Nat.lt_of_lt_of_le hbl hb.size, fun i hi => (hb.cell (p := ⟨b, off + i, none⟩) hbl).trans (h i hi)⟩
theorem HoldV.below {w w' : World} {a : Option Addr} {V : List Vl} (h : HoldV w a V) (hb : Below w.heap.size w w') : HoldV w' a V := by
  rcases h with h | ⟨b, off, ha, hbl, h⟩
  · exact Or.inl h
  · refine Or.inr ⟨b, off, ha, Nat.lt_of_lt_of_le hbl hb.size, fun i hi => ?_⟩
    obtain ⟨h1, ⟨at_, ct, h2, h3⟩, an, cn, h4, h5⟩ := h i hi
    exact ⟨(hb.cell (p := ⟨b, off + i * 3, none⟩) hbl).trans h1, ⟨at_, ct, (hb.cell (p := ⟨b, off + i * 3 + 1, none⟩) hbl).trans h2, h3.below hb⟩, an, cn, (hb.cell (p := ⟨b, off + i * 3 + 2, none⟩) hbl).trans h4, h5.below hb⟩
def mkS (t : List UInt8) : Value := .string ⟨t.toArray⟩
def mkI (z : Int) : Value := .int .i64 z
/-- A row of its own, of type ty, that begins with the cells of l. -/
def RowF {X : Type} (mk : X → Value) (ty : TypeId) (d : X) (w : World) (g : Nat) (l : List X) : Prop := ∃ cur, w.heap[g]? = some (Obj.cells cur ty) ∧ l.length ≤ cur.size ∧ ∀ i, i < l.length → cur[i]? = some (mk (l.getD i d))
abbrev RowTx (w : World) (g : Nat) (l : List (List UInt8)) : Prop := RowF mkS 9 [] w g l
abbrev RowNz (w : World) (g : Nat) (l : List Int) : Prop := RowF mkI 3 0 w g l
theorem RowF.keep {X : Type} {mk : X → Value} {ty : TypeId} {d : X} {w w' : World} {g : Nat} {l : List X} (h : RowF mk ty d w g l) (hk : w'.heap[g]? = w.heap[g]?) : RowF mk ty d w' g l := by
  obtain ⟨cur, h1, h2, h3⟩ := h
  exact ⟨cur, hk.trans h1, h2, h3⟩
theorem RowF.lt {X : Type} {mk : X → Value} {ty : TypeId} {d : X} {w : World} {g : Nat} {l : List X} (h : RowF mk ty d w g l) : g < w.heap.size := by
  obtain ⟨cur, h1, h2, h3⟩ := h
  exact (Array.getElem?_eq_some_iff.1 h1).1
theorem RowF.below {X : Type} {mk : X → Value} {ty : TypeId} {d : X} {w w' : World} {g : Nat} {l : List X} (h : RowF mk ty d w g l) (hb : Below w.heap.size w w') : RowF mk ty d w' g l := h.keep (hb.block g h.lt)
theorem RowTx.hold {w : World} {g : Nat} {l : List (List UInt8)} (h : RowTx w g l) : HoldTx w (some ⟨g, 0, none⟩) l := by
  refine Or.inr ⟨g, 0, rfl, h.lt, fun i hi => ?_⟩
  obtain ⟨cur, h1, h2, h3⟩ := h
  rw [Nat.zero_add, blkc h1, h3 i hi]; rfl
theorem RowNz.hold {w : World} {g : Nat} {l : List Int} (h : RowNz w g l) : HoldZ w (some ⟨g, 0, none⟩) l := by
  refine Or.inr ⟨g, 0, rfl, h.lt, fun i hi => ?_⟩
  obtain ⟨cur, h1, h2, h3⟩ := h
  rw [Nat.zero_add, blkc h1, h3 i hi]; rfl
/-- One value, as three cells tell it, all of it behind B. -/
def ValAt (w : World) (B : Nat) (c0 c1 c2 : Option Value) (v : Vl) : Prop := c0 = some (mkS v.1) ∧ (∃ gt ct, c1 = some (.slice (some ⟨gt, 0, none⟩) v.2.1.length ct) ∧ B < gt ∧ RowTx w gt v.2.1) ∧ ∃ gn cn, c2 = some (.slice (some ⟨gn, 0, none⟩) v.2.2.length cn) ∧ B < gn ∧ RowNz w gn v.2.2
theorem ValAt.keep {w w' : World} {B : Nat} {c0 c1 c2 : Option Value} {v : Vl} (h : ValAt w B c0 c1 c2 v) (hk : ∀ b, B < b → b < w.heap.size → w'.heap[b]? = w.heap[b]?) : ValAt w' B c0 c1 c2 v := by
  obtain ⟨h0, ⟨gt, ct, h1, h2, h3⟩, gn, cn, h4, h5, h6⟩ := h
  exact ⟨h0, ⟨gt, ct, h1, h2, h3.keep (hk gt h2 h3.lt)⟩, gn, cn, h4, h5, h6.keep (hk gn h5 h6.lt)⟩
def DocAt (w : World) (g : Nat) (V : List Vl) : Prop := ∃ cs, w.heap[g]? = some (Obj.cells cs 64) ∧ V.length * 3 ≤ cs.size ∧ ∀ j, j < V.length → ValAt w g cs[j * 3]? cs[j * 3 + 1]? cs[j * 3 + 2]? (V.getD j vl0)
theorem DocAt.lt {w : World} {g : Nat} {V : List Vl} (h : DocAt w g V) : g < w.heap.size := by
  obtain ⟨cs, h1, _⟩ := h
  exact (Array.getElem?_eq_some_iff.1 h1).1
theorem DocAt.keep {w w' : World} {g : Nat} {V : List Vl} (h : DocAt w g V) (hk : ∀ b, g ≤ b → b < w.heap.size → w'.heap[b]? = w.heap[b]?) : DocAt w' g V := by
  have hl := h.lt
  obtain ⟨cs, h1, h2, h3⟩ := h
  exact ⟨cs, (hk g (Nat.le_refl _) hl).trans h1, h2, fun j hj => (h3 j hj).keep fun b hb hb2 => hk b (by omega) hb2⟩
theorem DocAt.below {w w' : World} {g : Nat} {V : List Vl} (h : DocAt w g V) (hb : Below w.heap.size w w') : DocAt w' g V := h.keep fun b _ hb2 => hb.block b hb2
theorem DocAt.set {w : World} {g : Nat} {V : List Vl} (h : DocAt w g V) (B j : Nat) (u : Value) (hB : B < g) : DocAt (w.setCell ⟨B, j, none⟩ u) g V := h.keep fun b hb _ => heap_set_other w B j u b (by omega)
theorem DocAt.hold {w : World} {g : Nat} {V : List Vl} (h : DocAt w g V) : HoldV w (some ⟨g, 0, none⟩) V := by
  have hl := h.lt
  obtain ⟨cs, h1, h2, h3⟩ := h
  refine Or.inr ⟨g, 0, rfl, hl, fun i hi => ?_⟩
  obtain ⟨q0, ⟨gt, ct, q1, q2, q3⟩, gn, cn, q4, q5, q6⟩ := h3 i hi
  rw [Nat.zero_add, blkc h1, blkc h1, blkc h1]
  exact ⟨q0, ⟨_, ct, q1, q3.hold⟩, _, cn, q4, q6.hold⟩
set_option maxHeartbeats 1000000 in
theorem eqTx_any (a1 a2 : Option Addr) (c1 c2 : Nat) (l : List (List UInt8)) (w : World) (hn : l.length ≤ 1048576) (h1 : HoldTx w a1 l) (h2 : HoldTx w a2 l) :
    Calls Tryd.prog 63 #[.slice a1 l.length c1, .slice a2 l.length c2] w fun e w' => e = .returned (.bool true) ∧ Below w.heap.size w w' := by
  have H1 := hidd h1
  have H2 := hidd h2
  clear h1 h2
  go_enter Tryd.func63, Tryd.ntmps63
  go_wp2
  go_loopw [5] (fun i wr => ∃ k : Nat, k ≤ l.length ∧ i = .int .i64 k ∧ Below w.heap.size w wr) (fun i _ => l.length - (intOf i).toNat)
  case atStart => exact ⟨0, Nat.zero_le _, rfl, Below.refl _ _⟩
  case round =>
    obtain ⟨k, hk, rfl, hbel⟩ := hrel
    have HB := hidd hbel
    by_cases hlt : k < l.length
    · obtain ⟨b1, o1, rfl, hb1, hc1⟩ := (H1.out.below hbel).resolve_left (fun h => by rw [h] at hlt; simp at hlt)
      obtain ⟨b2, o2, rfl, hb2, hc2⟩ := (H2.out.below hbel).resolve_left (fun h => by rw [h] at hlt; simp at hlt)
      have g1 := hc1 k hlt
      have g2 := hc2 k hlt
      clear hc1 hc2 hbel
      generalize l.getD k [] = t at g1 g2
      go_wp2
      go_quiet (fail)
      go_wp2
      go_roundw
      case rel => exact ⟨k + 1, by omega, by go_num, below_drewN HB.out _⟩
      case measure => simp [intOf]; omega
    · clear hbel
      go_wp2
      go_ret
      exact ⟨rfl, HB.out⟩
set_option maxHeartbeats 1000000 in
theorem eqNz_any (a1 a2 : Option Addr) (c1 c2 : Nat) (l : List Int) (w : World) (hn : l.length ≤ 1048576) (h1 : HoldZ w a1 l) (h2 : HoldZ w a2 l) :
    Calls Tryd.prog 64 #[.slice a1 l.length c1, .slice a2 l.length c2] w fun e w' => e = .returned (.bool true) ∧ Below w.heap.size w w' := by
  have H1 := hidd h1
  have H2 := hidd h2
  clear h1 h2
  go_enter Tryd.func64, Tryd.ntmps64
  go_wp2
  go_loopw [5] (fun i wr => ∃ k : Nat, k ≤ l.length ∧ i = .int .i64 k ∧ Below w.heap.size w wr) (fun i _ => l.length - (intOf i).toNat)
  case atStart => exact ⟨0, Nat.zero_le _, rfl, Below.refl _ _⟩
  case round =>
    obtain ⟨k, hk, rfl, hbel⟩ := hrel
    have HB := hidd hbel
    by_cases hlt : k < l.length
    · obtain ⟨b1, o1, rfl, hb1, hc1⟩ := (H1.out.below hbel).resolve_left (fun h => by rw [h] at hlt; simp at hlt)
      obtain ⟨b2, o2, rfl, hb2, hc2⟩ := (H2.out.below hbel).resolve_left (fun h => by rw [h] at hlt; simp at hlt)
      have g1 := hc1 k hlt
      have g2 := hc2 k hlt
      clear hc1 hc2 hbel
      generalize l.getD k 0 = t at g1 g2
      go_wp2
      go_quiet (fail)
      go_wp2
      go_roundw
      case rel => exact ⟨k + 1, by omega, by go_num, below_drewN HB.out _⟩
      case measure => simp [intOf]; omega
    · clear hbel
      go_wp2
      go_ret
      exact ⟨rfl, HB.out⟩

set_option maxHeartbeats 2000000 in
theorem eqVal_any (f : List UInt8) (a1 a2 n1 n2 : Option Addr) (c1 c2 d1 d2 : Nat) (tx : List (List UInt8)) (nz : List Int) (w : World) (hxl : tx.length ≤ 1048576) (hnl : nz.length ≤ 1048576) (h1 : HoldTx w a1 tx) (h2 : HoldTx w a2 tx) (h3 : HoldZ w n1 nz) (h4 : HoldZ w n2 nz) :
    Calls Tryd.prog 56 #[.agg #[.string ⟨f.toArray⟩, .slice a1 tx.length c1, .slice n1 nz.length d1], .agg #[.string ⟨f.toArray⟩, .slice a2 tx.length c2, .slice n2 nz.length d2]] w fun e w' => e = .returned (.bool true) ∧ Below w.heap.size w w' := by
  have HBa : Hid (Below w.heap.size w ((w.alloc (.cells #[.string ⟨f.toArray⟩, .slice a1 tx.length c1, .slice n1 nz.length d1] 64)).alloc (.cells #[.string ⟨f.toArray⟩, .slice a2 tx.length c2, .slice n2 nz.length d2] 64))) := ((Below.refl _ _).alloc (Nat.le_refl _) _).alloc (by simp) _
  have HBx := hidd (box_two w (.cells #[.string ⟨f.toArray⟩, .slice a1 tx.length c1, .slice n1 nz.length d1] 64) (.cells #[.string ⟨f.toArray⟩, .slice a2 tx.length c2, .slice n2 nz.length d2] 64))
  have HE := hidd (fun W (hW : Below w.heap.size w W) => eqTx_any a1 a2 c1 c2 tx W hxl (h1.below hW) (h2.below hW))
  have HE2 := hidd (fun W (hW : Below w.heap.size w W) => eqNz_any n1 n2 d1 d2 nz W hnl (h3.below hW) (h4.below hW))
  clear h1 h2 h3 h4
  go_enter Tryd.func56, Tryd.ntmps56
  go_wp2_with fail
  refine (HE.out _ HBa.out).mono ?_
  rintro e w3 ⟨rfl, hb3⟩
  have HB3 := hidd (HBa.out.trans (hb3.mono HBa.out.size))
  have x2 := blkc (blko HBx.out.1 hb3) 2
  have y2 := blkc (blko HBx.out.2 hb3) 2
  clear hb3 HBx HE
  dsimp only
  go_wp2_with fail
  refine (HE2.out _ HB3.out).mono ?_
  rintro e w4 ⟨rfl, hb4⟩
  have HB4 := hidd (HB3.out.trans (hb4.mono HB3.out.size))
  clear hb4 x2 y2 HE2
  dsimp only
  go_wp2_with fail
  go_ret
  exact ⟨rfl, HB4.out⟩
set_option maxHeartbeats 4000000 in
theorem eqVals_any (a1 a2 : Option Addr) (c1 c2 : Nat) (V : List Vl) (w : World) (hn : V.length ≤ 1048576) (hA : ∀ i, (V.getD i vl0).1.length ≤ 1048576 ∧ (V.getD i vl0).2.1.length ≤ 1048576 ∧ (V.getD i vl0).2.2.length ≤ 1048576) (h1 : HoldV w a1 V) (h2 : HoldV w a2 V) :
    Calls Tryd.prog 45 #[.slice a1 V.length c1, .slice a2 V.length c2] w fun e w' => e = .returned (.bool true) ∧ Below w.heap.size w w' := by
  have H1 := hidd h1
  have H2 := hidd h2
  have HA := hidd hA
  clear h1 h2 hA
  go_enter Tryd.func45, Tryd.ntmps45
  go_wp2_with fail
  go_loopw [5] (fun iv wr => ∃ k : Nat, k ≤ V.length ∧ iv = .int .i64 (k : Int) ∧ Below w.heap.size w wr) (fun iv _ => V.length - (intOf iv).toNat)
  case atStart => exact ⟨0, Nat.zero_le _, rfl, Below.refl _ _⟩
  case round =>
    obtain ⟨k, hk, rfl, hbel⟩ := hrel
    have HB := hidd hbel
    clear hbel
    by_cases hlt : k < V.length
    · have hkz : (k : Int) < (V.length : Int) := by omega
      obtain ⟨b1, o1, rfl, hb1, hc1⟩ := (H1.out.below HB.out).resolve_left (fun h => by rw [h] at hlt; simp at hlt)
      obtain ⟨b2, o2, rfl, hb2, hc2⟩ := (H2.out.below HB.out).resolve_left (fun h => by rw [h] at hlt; simp at hlt)
      obtain ⟨x0, ⟨ai, ci, x1, hx⟩, mi, di, x2, hxz⟩ := hc1 k hlt
      obtain ⟨y0, ⟨aj, cj, y1, hy⟩, mj, dj, y2, hyz⟩ := hc2 k hlt
      clear hc1 hc2
      have hal := HA.out k
      generalize V.getD k vl0 = s at *
      obtain ⟨f, tx, nz⟩ := s
      dsimp only at x0 x1 x2 y0 y1 y2 hx hy hxz hyz hal
      have hbd := below_drewN (Below.refl wr.heap.size wr) 1
      have HC : Hid (Calls Tryd.prog 56 #[.agg #[.string ⟨f.toArray⟩, .slice ai tx.length ci, .slice mi nz.length di], .agg #[.string ⟨f.toArray⟩, .slice aj tx.length cj, .slice mj nz.length dj]] wr.drew fun e w' => e = .returned (.bool true) ∧ Below wr.drew.heap.size wr.drew w') := eqVal_any f ai aj mi mj ci cj di dj tx nz wr.drew hal.2.1 hal.2.2 (hx.below hbd) (hy.below hbd) (hxz.below hbd) (hyz.below hbd)
      clear hx hy hxz hyz hal hbd
      go_wp2_with fail
      go_region_with (go_at_call 56; refine HC.out.mono ?_; rintro e' w3 ⟨rfl, hb3⟩)
      all_goals
        go_wp2_with fail
        go_roundw
        · exact ⟨k + 1, by omega, by go_num, HB.out.trans ((below_drewN (Below.refl _ _) 1).trans hb3 |>.mono HB.out.size)⟩
        · simp [intOf]; omega
    · have hkz : ¬ (k : Int) < (V.length : Int) := by omega
      go_wp2_with fail
      go_ret
      exact ⟨rfl, HB.out⟩
set_option maxHeartbeats 2000000 in
theorem eqDoc_any (id : List UInt8) (a1 a2 : Option Addr) (c1 c2 : Nat) (V : List Vl) (w : World) (hn : V.length ≤ 1048576) (hA : ∀ i, (V.getD i vl0).1.length ≤ 1048576 ∧ (V.getD i vl0).2.1.length ≤ 1048576 ∧ (V.getD i vl0).2.2.length ≤ 1048576) (h1 : HoldV w a1 V) (h2 : HoldV w a2 V) :
    Calls Tryd.prog 26 #[.agg #[.string ⟨id.toArray⟩, .slice a1 V.length c1], .agg #[.string ⟨id.toArray⟩, .slice a2 V.length c2]] w fun e w' => e = .returned (.bool true) ∧ Below w.heap.size w w' := by
  have HBa : Hid (Below w.heap.size w ((w.alloc (.cells #[.string ⟨id.toArray⟩, .slice a1 V.length c1] 34)).alloc (.cells #[.string ⟨id.toArray⟩, .slice a2 V.length c2] 34))) := ((Below.refl _ _).alloc (Nat.le_refl _) _).alloc (by simp) _
  have HE := hidd (eqVals_any a1 a2 c1 c2 V _ hn hA (h1.below HBa.out) (h2.below HBa.out))
  clear h1 h2 hA
  go_enter Tryd.func26, Tryd.ntmps26
  go_wp2_with fail
  refine HE.out.mono ?_
  rintro e w3 ⟨rfl, hb3⟩
  have HB3 := hidd (HBa.out.trans (hb3.mono HBa.out.size))
  clear hb3 HE
  dsimp only
  go_wp2_with fail
  go_ret
  exact ⟨rfl, HB3.out⟩
end Go.Proofs.YtefhmbnhhkgifaaDoor
