import Derived.Test.YtgoklapafidpkaaGreatDoorTermsJ44
import Derived.Test.YtgoklapafidpkaaGreatDoorTermsJ07
namespace Go.Proofs.YtgoklapafidpkaaGreatDoor
open Go Go.RowKit
set_option linter.unusedVariables false
set_option maxRecDepth 100000

set_option maxHeartbeats 2000000 in
theorem eqVal_any (f : List UInt8) (a1 a2 n1 n2 : Option Addr) (c1 c2 d1 d2 : Nat) (tx : List (List UInt8)) (nz : List Int) (w : World) (hxl : tx.length ≤ 1048576) (hnl : nz.length ≤ 1048576) (h1 : HoldTx w a1 tx) (h2 : HoldTx w a2 tx) (h3 : HoldZ w n1 nz) (h4 : HoldZ w n2 nz) :
    Calls Tryz.prog 77 #[.agg #[.string ⟨f.toArray⟩, .slice a1 tx.length c1, .slice n1 nz.length d1], .agg #[.string ⟨f.toArray⟩, .slice a2 tx.length c2, .slice n2 nz.length d2]] w fun e w' => e = .returned (.bool true) ∧ Below w.heap.size w w' := by
  have HBa : Hid (Below w.heap.size w ((w.alloc (.cells #[.string ⟨f.toArray⟩, .slice a1 tx.length c1, .slice n1 nz.length d1] 60)).alloc (.cells #[.string ⟨f.toArray⟩, .slice a2 tx.length c2, .slice n2 nz.length d2] 60))) := ((Below.refl _ _).alloc (Nat.le_refl _) _).alloc (by simp) _
  have HBx := hidd (box_two w (.cells #[.string ⟨f.toArray⟩, .slice a1 tx.length c1, .slice n1 nz.length d1] 60) (.cells #[.string ⟨f.toArray⟩, .slice a2 tx.length c2, .slice n2 nz.length d2] 60))
  have HE := hidd (fun W (hW : Below w.heap.size w W) => eqTx_any a1 a2 c1 c2 tx W hxl (h1.below hW) (h2.below hW))
  have HE2 := hidd (fun W (hW : Below w.heap.size w W) => eqNz_any n1 n2 d1 d2 nz W hnl (h3.below hW) (h4.below hW))
  clear h1 h2 h3 h4
  go_enter Tryz.func77, Tryz.ntmps77
  go_wp2_with fail
  refine (HE.out _ HBa.out).mono ?_
  rintro e w3 ⟨rfl, hb3⟩
  have HB3 := hidd (HBa.out.trans (hb3.mono HBa.out.size))
  have x2 := blkc (blko HBx.out.1 hb3) 2
  have y2 := blkc (blko HBx.out.2 hb3) 2
  clear hb3 HBx HE
  dsimp only
  go_wp2_with fail
  refine (HE2.out _ HB3.out).mono ?_
  rintro e w4 ⟨rfl, hb4⟩
  have HB4 := hidd (HB3.out.trans (hb4.mono HB3.out.size))
  clear hb4 x2 y2 HE2
  dsimp only
  go_wp2_with fail
  go_ret
  exact ⟨rfl, HB4.out⟩
set_option maxHeartbeats 4000000 in
theorem eqVals_any (a1 a2 : Option Addr) (c1 c2 : Nat) (V : List Vl) (w : World) (hn : V.length ≤ 1048576) (hA : ∀ i, (V.getD i vl0).1.length ≤ 1048576 ∧ (V.getD i vl0).2.1.length ≤ 1048576 ∧ (V.getD i vl0).2.2.length ≤ 1048576) (h1 : HoldV w a1 V) (h2 : HoldV w a2 V) :
    Calls Tryz.prog 37 #[.slice a1 V.length c1, .slice a2 V.length c2] w fun e w' => e = .returned (.bool true) ∧ Below w.heap.size w w' := by
  have H1 := hidd h1
  have H2 := hidd h2
  have HA := hidd hA
  clear h1 h2 hA
  go_enter Tryz.func37, Tryz.ntmps37
  go_wp2_with fail
  go_loopw [5] (fun iv wr => ∃ k : Nat, k ≤ V.length ∧ iv = .int .i64 (k : Int) ∧ Below w.heap.size w wr) (fun iv _ => V.length - (intOf iv).toNat)
  case atStart => exact ⟨0, Nat.zero_le _, rfl, Below.refl _ _⟩
  case round =>
    obtain ⟨k, hk, rfl, hbel⟩ := hrel
    have HB := hidd hbel
    clear hbel
    by_cases hlt : k < V.length
    · have hkz : (k : Int) < (V.length : Int) := by omega
      obtain ⟨b1, o1, rfl, hb1, hc1⟩ := (H1.out.below HB.out).resolve_left (fun h => by rw [h] at hlt; simp at hlt)
      obtain ⟨b2, o2, rfl, hb2, hc2⟩ := (H2.out.below HB.out).resolve_left (fun h => by rw [h] at hlt; simp at hlt)
      obtain ⟨x0, ⟨ai, ci, x1, hx⟩, mi, di, x2, hxz⟩ := hc1 k hlt
      obtain ⟨y0, ⟨aj, cj, y1, hy⟩, mj, dj, y2, hyz⟩ := hc2 k hlt
      clear hc1 hc2
      have hal := HA.out k
      generalize V.getD k vl0 = s at *
      obtain ⟨f, tx, nz⟩ := s
      dsimp only at x0 x1 x2 y0 y1 y2 hx hy hxz hyz hal
      have hbd := below_drewN (Below.refl wr.heap.size wr) 1
      have HC : Hid (Calls Tryz.prog 77 #[.agg #[.string ⟨f.toArray⟩, .slice ai tx.length ci, .slice mi nz.length di], .agg #[.string ⟨f.toArray⟩, .slice aj tx.length cj, .slice mj nz.length dj]] wr.drew fun e w' => e = .returned (.bool true) ∧ Below wr.drew.heap.size wr.drew w') := eqVal_any f ai aj mi mj ci cj di dj tx nz wr.drew hal.2.1 hal.2.2 (hx.below hbd) (hy.below hbd) (hxz.below hbd) (hyz.below hbd)
      clear hx hy hxz hyz hal hbd
      go_wp2_with fail
      go_region_with (go_at_call 77; refine HC.out.mono ?_; rintro e' w3 ⟨rfl, hb3⟩)
      all_goals
        go_wp2_with fail
        go_roundw
        · exact ⟨k + 1, by omega, by go_num, HB.out.trans ((below_drewN (Below.refl _ _) 1).trans hb3 |>.mono HB.out.size)⟩
        · simp [intOf]; omega
    · have hkz : ¬ (k : Int) < (V.length : Int) := by omega
      go_wp2_with fail
      go_ret
      exact ⟨rfl, HB.out⟩
set_option maxHeartbeats 2000000 in
theorem eqDoc_any (id : List UInt8) (a1 a2 : Option Addr) (c1 c2 : Nat) (V : List Vl) (w : World) (hn : V.length ≤ 1048576) (hA : ∀ i, (V.getD i vl0).1.length ≤ 1048576 ∧ (V.getD i vl0).2.1.length ≤ 1048576 ∧ (V.getD i vl0).2.2.length ≤ 1048576) (h1 : HoldV w a1 V) (h2 : HoldV w a2 V) :
    Calls Tryz.prog 13 #[.agg #[.string ⟨id.toArray⟩, .slice a1 V.length c1], .agg #[.string ⟨id.toArray⟩, .slice a2 V.length c2]] w fun e w' => e = .returned (.bool true) ∧ Below w.heap.size w w' := by
  have HBa : Hid (Below w.heap.size w ((w.alloc (.cells #[.string ⟨id.toArray⟩, .slice a1 V.length c1] 37)).alloc (.cells #[.string ⟨id.toArray⟩, .slice a2 V.length c2] 37))) := ((Below.refl _ _).alloc (Nat.le_refl _) _).alloc (by simp) _
  have HE := hidd (eqVals_any a1 a2 c1 c2 V _ hn hA (h1.below HBa.out) (h2.below HBa.out))
  clear h1 h2 hA
  go_enter Tryz.func13, Tryz.ntmps13
  go_wp2_with fail
  refine HE.out.mono ?_
  rintro e w3 ⟨rfl, hb3⟩
  have HB3 := hidd (HBa.out.trans (hb3.mono HBa.out.size))
  clear hb3 HE
  dsimp only
  go_wp2_with fail
  go_ret
  exact ⟨rfl, HB3.out⟩
end Go.Proofs.YtgoklapafidpkaaGreatDoor

namespace Go.Proofs.YtgoklapafidpkaaGreatDoor
open Go Go.RowKit
set_option linter.unusedVariables false

set_option maxHeartbeats 1000000 in
theorem markText_big (k : Int) (w : World) (h0 : 1 ≤ k) (h1 : k ≤ 17592186044416) :
    Calls Tryz.prog 45 #[.int .i64 k] w fun e w' => e = .returned (.string (mkText k)) ∧ Below w.heap.size w w' := by
  have HT : Hid (mkText k = ⟨(109 :: mkD k.toNat k.toNat []).toArray⟩) := by show _ = _; rw [mkText, if_neg (by omega)]
  obtain ⟨K, rfl⟩ := Int.eq_ofNat_of_zero_le (by omega : 0 ≤ k)
  rw [Int.toNat_natCast] at HT
  obtain ⟨A, hA⟩ : ∃ A, A = mkD K K [] := ⟨_, rfl⟩
  rw [← hA] at HT
  have HS : Hid (mkD K K [] = A) := hA.symm
  clear hA
  go_enter Tryz.func45, Tryz.ntmps45
  go_wp2
  go_loopw [0, 3] (fun kv ov wr => ∃ (n f : Nat) (out : List UInt8), n ≤ K ∧ n ≤ f ∧ out.length + f ≤ K ∧ kv = .int .i64 (n : Int) ∧ ov = .string ⟨out.toArray⟩ ∧ mkD f n out = A ∧ Below w.heap.size w wr) (fun kv _ _ => (intOf kv).toNat)
  case atStart => exact ⟨K, K, [], Nat.le_refl _, Nat.le_refl _, by simp, rfl, rfl, HS.out, Below.refl _ _⟩
  case round =>
    obtain ⟨n, f, out, hn, hnf, hof, rfl, rfl, hd, hbel⟩ := hrel
    by_cases hp : 0 < n
    · obtain ⟨g, rfl⟩ : ∃ g, f = g + 1 := ⟨f - 1, by omega⟩
      have Hd : Hid (mkD g (n / 10) ((48 + UInt8.ofNat (n % 10)) :: out) = A) := by show _ = _; rw [mkD, if_neg (by omega)] at hd; exact hd
      clear hd
      have hcv : ∀ (wx : World), (convert 50 9 (.slice (some ⟨wr.heap.size, 0, none⟩) 1 1)).run Tryz.prog (wr.alloc (.cells #[.int .u8 (48 + (n : Int) % 10)] 5)) = .ok (.string ⟨#[48 + UInt8.ofNat (n % 10)]⟩) (wr.alloc (.cells #[.int .u8 (48 + (n : Int) % 10)] 5)) := fun wx => by
        refine run_convert_bytes_back _ 50 9 5 ⟨wr.heap.size, 0, none⟩ 1 [48 + UInt8.ofNat (n % 10)] Tryz.underlying50 Tryz.underlying5 Tryz.underlying9 fun j hj => ?_
        obtain rfl : j = 0 := by simpa using hj
        rw [add_head, World.cell?_alloc_at (hn := rfl)]
        have hd := digit_nat n
        simp only [List.getElem_cons_zero]
        rw [hd]
        simp
      have hcv1 := hcv wr
      clear hcv
      go_wp2
      go_roundw
      case rel => exact ⟨n / 10, g, (48 + UInt8.ofNat (n % 10)) :: out, by omega, by omega, by rw [List.length_cons]; omega, by go_num, by rw [ba_cons], Hd.out, hbel.alloc hbel.size _⟩
      case measure => simp [intOf]; omega
    · have HN : Hid (n = 0) := by show n = 0; omega
      have HA : Hid (A = out) := by show _ = _; rw [← hd, HN.out, mkD_zero]
      clear hd
      go_wp2
      go_ret
      rw [HT.out, HA.out, ← ba_cons]
      exact ⟨rfl, hbel⟩
end Go.Proofs.YtgoklapafidpkaaGreatDoor

namespace Go.Proofs.YtgoklapafidpkaaGreatDoor
open Go Go.RowKit
set_option linter.unusedVariables false
set_option maxRecDepth 100000

def RowN (w : World) (g n : Nat) (ty : TypeId) : Prop := ∃ cur, w.heap[g]? = some (Obj.cells cur ty) ∧ n ≤ cur.size
def StrV (W : World) (g : Nat) (ls : List (Nat × Nat)) : Prop := ∃ cs, W.heap[g]? = some (Obj.cells cs 60) ∧ ls.length * 3 ≤ cs.size ∧ ∀ j, j < ls.length → ∃ gt ct gn cn, cs[j * 3 + 1]? = some (.slice (some ⟨gt, 0, none⟩) (ls.getD j (0, 0)).1 ct) ∧ g < gt ∧ RowN W gt (ls.getD j (0, 0)).1 9 ∧ cs[j * 3 + 2]? = some (.slice (some ⟨gn, 0, none⟩) (ls.getD j (0, 0)).2 cn) ∧ g < gn ∧ RowN W gn (ls.getD j (0, 0)).2 3
/-- A schema's row of fields: their rows of stop words and synonyms. -/
def StrF (W : World) (g : Nat) (ls : List (Nat × Nat)) : Prop := ∃ cs, W.heap[g]? = some (Obj.cells cs 79) ∧ ls.length * 9 ≤ cs.size ∧ ∀ j, j < ls.length → ∃ gt ct gn cn, cs[j * 9 + 5]? = some (.slice (some ⟨gt, 0, none⟩) (ls.getD j (0, 0)).1 ct) ∧ g < gt ∧ RowN W gt (ls.getD j (0, 0)).1 9 ∧ cs[j * 9 + 6]? = some (.slice (some ⟨gn, 0, none⟩) (ls.getD j (0, 0)).2 cn) ∧ g < gn ∧ RowN W gn ((ls.getD j (0, 0)).2 * 2) 156
/-- What marking a document or a schema writes over. -/
structure Fv (W W' : World) (g : Nat) : Prop where
  size : W.heap.size ≤ W'.heap.size
  os : W'.os = W.os
  tape : W'.tape = W.tape
  output : W'.output = W.output
  low : ∀ b, b < g → b < W.heap.size → W'.heap[b]? = W.heap[b]?
  typ : ∀ (b : Nat) (cur : Array Value) (t : TypeId), W.heap[b]? = some (Obj.cells cur t) → t ≠ 60 → t ≠ 9 → t ≠ 3 → t ≠ 79 → t ≠ 156 → W'.heap[b]? = W.heap[b]?
  keep : ∀ (b : Nat) (cur : Array Value) (t : TypeId), W.heap[b]? = some (Obj.cells cur t) → ∃ cur', W'.heap[b]? = some (Obj.cells cur' t) ∧ cur.size ≤ cur'.size ∧ (t = 60 → ∀ j, cur'[j * 3 + 1]? = cur[j * 3 + 1]? ∧ cur'[j * 3 + 2]? = cur[j * 3 + 2]?) ∧ (t = 79 → ∀ j, cur'[j * 9 + 5]? = cur[j * 9 + 5]? ∧ cur'[j * 9 + 6]? = cur[j * 9 + 6]?)
theorem Fv.row {W W' : World} {g : Nat} (h : Fv W W' g) (g' n : Nat) (ty : TypeId) (hs : RowN W g' n ty) : RowN W' g' n ty := by
  obtain ⟨cur, h1, h2⟩ := hs
  obtain ⟨cur', q1, q2, _⟩ := h.keep g' cur ty h1
  exact ⟨cur', q1, by omega⟩
theorem Fv.str {W W' : World} {g : Nat} (h : Fv W W' g) (g' : Nat) (ls : List (Nat × Nat)) (hs : StrV W g' ls) : StrV W' g' ls := by
  obtain ⟨cs, h1, h2, h3⟩ := hs
  obtain ⟨cs', q1, q2, q3, _⟩ := h.keep g' cs _ h1
  refine ⟨cs', q1, by omega, fun j hj => ?_⟩
  obtain ⟨gt, ct, gn, cn, a1, a2, a3, a4, a5, a6⟩ := h3 j hj
  exact ⟨gt, ct, gn, cn, (q3 rfl j).1.trans a1, a2, h.row _ _ _ a3, (q3 rfl j).2.trans a4, a5, h.row _ _ _ a6⟩
theorem Fv.fld {W W' : World} {g : Nat} (h : Fv W W' g) (g' : Nat) (ls : List (Nat × Nat)) (hs : StrF W g' ls) : StrF W' g' ls := by
  obtain ⟨cs, h1, h2, h3⟩ := hs
  obtain ⟨cs', q1, q2, _, q3⟩ := h.keep g' cs _ h1
  refine ⟨cs', q1, by omega, fun j hj => ?_⟩
  obtain ⟨gt, ct, gn, cn, a1, a2, a3, a4, a5, a6⟩ := h3 j hj
  exact ⟨gt, ct, gn, cn, (q3 rfl j).1.trans a1, a2, h.row _ _ _ a3, (q3 rfl j).2.trans a4, a5, h.row _ _ _ a6⟩
theorem Fv.refl (W : World) (g : Nat) : Fv W W g := ⟨Nat.le_refl _, rfl, rfl, rfl, fun _ _ _ => rfl, fun _ _ _ _ _ _ _ _ _ => rfl, fun b cur t h => ⟨cur, h, Nat.le_refl _, fun _ _ => ⟨rfl, rfl⟩, fun _ _ => ⟨rfl, rfl⟩⟩⟩
theorem Fv.trans {A B C : World} {g : Nat} (h : Fv A B g) (k : Fv B C g) : Fv A C g := by
  refine ⟨Nat.le_trans h.size k.size, k.os.trans h.os, k.tape.trans h.tape, k.output.trans h.output, fun b hb hb2 => (k.low b hb (Nat.lt_of_lt_of_le hb2 h.size)).trans (h.low b hb hb2), fun b cur t h1 h2 h3 h4 h5 h6 => (k.typ b cur t ((h.typ b cur t h1 h2 h3 h4 h5 h6).trans h1) h2 h3 h4 h5 h6).trans (h.typ b cur t h1 h2 h3 h4 h5 h6), fun b cur t hb => ?_⟩
  obtain ⟨c1, a1, a2, a3, a4⟩ := h.keep b cur t hb
  obtain ⟨c2, b1, b2, b3, b4⟩ := k.keep b c1 t a1
  exact ⟨c2, b1, by omega, fun e j => ⟨(b3 e j).1.trans (a3 e j).1, (b3 e j).2.trans (a3 e j).2⟩, fun e j => ⟨(b4 e j).1.trans (a4 e j).1, (b4 e j).2.trans (a4 e j).2⟩⟩
theorem Fv.mono {A B : World} {g g' : Nat} (h : Fv A B g) (hg : g' ≤ g) : Fv A B g' := ⟨h.size, h.os, h.tape, h.output, fun b hb hb2 => h.low b (by omega) hb2, h.typ, h.keep⟩
theorem Fv.below {W W' : World} {g B : Nat} (h : Fv W W' g) (hg : B ≤ g) (hB : B ≤ W.heap.size) : Below B W W' := ⟨h.os, h.tape, h.output, h.size, fun b hb => h.low b (by omega) (by omega)⟩
theorem Fv.of {W W' : World} (h : Below W.heap.size W W') (g : Nat) : Fv W W' g :=
  ⟨h.size, h.os, h.tape, h.output, fun b _ hb => h.block b hb, fun b cur t h1 _ _ _ _ _ => h.block b (Array.getElem?_eq_some_iff.1 h1).1, fun b cur t h1 => ⟨cur, blko h1 h, Nat.le_refl _, fun _ _ => ⟨rfl, rfl⟩, fun _ _ => ⟨rfl, rfl⟩⟩⟩
theorem Fv.setG {W : World} {b j g : Nat} {cur : Array Value} {t : TypeId} (u : Value) (hb : W.heap[b]? = some (Obj.cells cur t)) (ht : t = 9 ∨ t = 3 ∨ t = 60 ∨ t = 79 ∨ t = 156) (hv : t = 60 → ∀ i, j ≠ i * 3 + 1 ∧ j ≠ i * 3 + 2) (hf : t = 79 → ∀ i, j ≠ i * 9 + 5 ∧ j ≠ i * 9 + 6) (hg : g ≤ b) : Fv W (W.setCell ⟨b, j, none⟩ u) g := by
  refine ⟨by simp, rfl, rfl, rfl, fun x hx _ => heap_set_other W b j u x (by omega), fun x c2 t' h1 h2 h3 h4 h5 h6 => heap_set_other W b j u x (blk_ne h1 hb (by rcases ht with rfl | rfl | rfl | rfl | rfl <;> assumption)), fun x c2 t' hc => ?_⟩
  by_cases e : x = b
  · subst e
    rw [hb] at hc
    simp only [Option.some.injEq, Obj.cells.injEq] at hc
    obtain ⟨rfl, rfl, _⟩ := hc
    exact ⟨_, blk_setk hb j u, by simp, fun e i => ⟨Array.getElem?_setIfInBounds_ne (by have := hv e i; omega), Array.getElem?_setIfInBounds_ne (by have := hv e i; omega)⟩, fun e i => ⟨Array.getElem?_setIfInBounds_ne (by have := hf e i; omega), Array.getElem?_setIfInBounds_ne (by have := hf e i; omega)⟩⟩
  · exact ⟨c2, (heap_set_other W b j u x e).trans hc, Nat.le_refl _, fun _ _ => ⟨rfl, rfl⟩, fun _ _ => ⟨rfl, rfl⟩⟩
theorem Fv.setR {W : World} {b j g : Nat} {cur : Array Value} {t : TypeId} (u : Value) (hb : W.heap[b]? = some (Obj.cells cur t)) (ht : t = 9 ∨ t = 3) (hg : g ≤ b) : Fv W (W.setCell ⟨b, j, none⟩ u) g :=
  Fv.setG u hb (ht.elim Or.inl (fun h => Or.inr (Or.inl h))) (fun e => by rcases ht with rfl | rfl <;> exact absurd e (by decide)) (fun e => by rcases ht with rfl | rfl <;> exact absurd e (by decide)) hg
theorem Fv.setY {W : World} {b j g : Nat} {cur : Array Value} (u : Value) (hb : W.heap[b]? = some (Obj.cells cur 156)) (hg : g ≤ b) : Fv W (W.setCell ⟨b, j, none⟩ u) g :=
  Fv.setG u hb (Or.inr (Or.inr (Or.inr (Or.inr rfl)))) (fun e => absurd e (by decide)) (fun e => absurd e (by decide)) hg
theorem Fv.setV {W : World} {b i g : Nat} {cs : Array Value} (u : Value) (hb : W.heap[b]? = some (Obj.cells cs 60)) (hg : g ≤ b) : Fv W (W.setCell ⟨b, i * 3, none⟩ u) g :=
  Fv.setG u hb (Or.inr (Or.inr (Or.inl rfl))) (fun _ x => ⟨by omega, by omega⟩) (fun e => absurd e (by decide)) hg
theorem Fv.setF {W : World} {b i r g : Nat} {cs : Array Value} (u : Value) (hb : W.heap[b]? = some (Obj.cells cs 79)) (hr : r < 9) (h5 : r ≠ 5) (h6 : r ≠ 6) (hg : g ≤ b) : Fv W (W.setCell ⟨b, i * 9 + r, none⟩ u) g :=
  Fv.setG u hb (Or.inr (Or.inr (Or.inr (Or.inl rfl)))) (fun e => absurd e (by decide)) (fun _ x => ⟨by omega, by omega⟩) hg
theorem RowN.cell {W : World} {b n : Nat} {ty : TypeId} (h : RowN W b n ty) {j : Nat} (hj : j < n) : (∃ u, W.cell? ⟨b, j, none⟩ = some u) ∧ W.frozen? ⟨b, j, none⟩ = false := by
  obtain ⟨cur, h1, h2⟩ := h
  refine ⟨⟨cur[j]'(by omega), ?_⟩, blkf h1 j⟩
  rw [blkc h1 j]
  exact Array.getElem?_eq_getElem (by omega)
set_option maxHeartbeats 2000000 in
theorem markTx_any (b n c : Nat) (k : Nat) (w : World) (hn : n ≤ 1048576) (hk0 : 1 ≤ k) (hk : k ≤ 13194139533312) (hr : RowN w b n 9) :
    Calls Tryz.prog 86 #[.slice (some ⟨b, 0, none⟩) n c, .int .i64 (k : Int)] w fun e w' => e = .returned (.int .i64 ((k + n : Nat) : Int)) ∧ Fv w w' b := by
  have HR := hidd hr
  clear hr
  go_enter Tryz.func86, Tryz.ntmps86
  go_wp2
  go_loopw [1, 5] (fun kv iv wr => ∃ i : Nat, i ≤ n ∧ iv = .int .i64 (i : Int) ∧ kv = .int .i64 ((k + i : Nat) : Int) ∧ Fv w wr b) (fun _ iv _ => n - (intOf iv).toNat)
  case atStart => exact ⟨0, Nat.zero_le _, rfl, by simp, Fv.refl _ _⟩
  case round =>
    obtain ⟨i, hi, rfl, rfl, hfz⟩ := hrel
    have HF := hidd hfz
    clear hfz
    by_cases hlt : i < n
    · have hltz : (i : Int) < (n : Int) := by omega
      obtain ⟨K, hK⟩ : ∃ K, k + i = K := ⟨_, rfl⟩
      have HK := hidd hK
      have hK0 : 1 ≤ K := by omega
      have hKl : K ≤ 13194140581888 := by omega
      try rw [hK]
      clear hK
      have HM := hidd (markText_big (K : Int) wr (by omega) (by omega))
      generalize mkText (K : Int) = T at HM
      go_wp2_with fail
      refine HM.out.mono ?_
      rintro e w2 ⟨rfl, hb2⟩
      have HF2 := hidd (HF.out.trans (Fv.of hb2 b))
      have hr2 := HF2.out.row _ _ _ HR.out
      obtain ⟨⟨u0, q0⟩, f0⟩ := hr2.cell hlt
      obtain ⟨cur, hc, hcs⟩ := hr2
      have HS := hidd (Fv.setR (j := i) (.string T) hc (Or.inl rfl) (Nat.le_refl b))
      clear hb2 HM hc
      dsimp only
      go_wp2_with fail
      go_roundw
      case rel =>
        refine ⟨i + 1, by omega, by go_num, ?_, HF2.out.trans HS.out⟩
        have := HK.out
        first | (congr 1; omega) | go_num
      case measure => simp [intOf]; omega
    · have hltz : ¬ (i : Int) < (n : Int) := by omega
      obtain rfl : i = n := by omega
      go_wp2
      go_ret
      exact ⟨rfl, HF.out⟩
set_option maxHeartbeats 2000000 in
theorem markNz_any (b n c : Nat) (k : Nat) (w : World) (hn : n ≤ 1048576) (hk : k ≤ 13194139533312) (hr : RowN w b n 3) :
    Calls Tryz.prog 88 #[.slice (some ⟨b, 0, none⟩) n c, .int .i64 (k : Int)] w fun e w' => e = .returned (.int .i64 ((k + n : Nat) : Int)) ∧ Fv w w' b := by
  have HR := hidd hr
  clear hr
  go_enter Tryz.func88, Tryz.ntmps88
  go_wp2
  go_loopw [1, 5] (fun kv iv wr => ∃ i : Nat, i ≤ n ∧ iv = .int .i64 (i : Int) ∧ kv = .int .i64 ((k + i : Nat) : Int) ∧ Fv w wr b) (fun _ iv _ => n - (intOf iv).toNat)
  case atStart => exact ⟨0, Nat.zero_le _, rfl, by simp, Fv.refl _ _⟩
  case round =>
    obtain ⟨i, hi, rfl, rfl, hfz⟩ := hrel
    have HF := hidd hfz
    clear hfz
    by_cases hlt : i < n
    · have hltz : (i : Int) < (n : Int) := by omega
      obtain ⟨K, hK⟩ : ∃ K, k + i = K := ⟨_, rfl⟩
      have HK := hidd hK
      have hKl : K ≤ 13194140581888 := by omega
      try rw [hK]
      clear hK
      have hr2 := HF.out.row _ _ _ HR.out
      obtain ⟨⟨u0, q0⟩, f0⟩ := hr2.cell hlt
      obtain ⟨cur, hc, hcs⟩ := hr2
      have HS := hidd (Fv.setR (j := i) (.int .i64 (K : Int)) hc (Or.inr rfl) (Nat.le_refl b))
      clear hc
      go_wp2_with fail
      go_roundw
      case rel =>
        refine ⟨i + 1, by omega, by go_num, ?_, HF.out.trans HS.out⟩
        have := HK.out
        first | (congr 1; omega) | go_num
      case measure => simp [intOf]; omega
    · have hltz : ¬ (i : Int) < (n : Int) := by omega
      obtain rfl : i = n := by omega
      go_wp2
      go_ret
      exact ⟨rfl, HF.out⟩
end Go.Proofs.YtgoklapafidpkaaGreatDoor

namespace Go.Proofs.YtgoklapafidpkaaGreatDoor
open Go Go.RowKit
set_option linter.unusedVariables false
set_option maxRecDepth 100000

theorem StrV.at {W : World} {g : Nat} {ls : List (Nat × Nat)} (h : StrV W g ls) {j : Nat} (hj : j < ls.length) : ∃ cs u gt ct gn cn, W.heap[g]? = some (Obj.cells cs 60) ∧ W.cell? ⟨g, j * 3, none⟩ = some u ∧ W.cell? ⟨g, j * 3 + 1, none⟩ = some (.slice (some ⟨gt, 0, none⟩) (ls.getD j (0, 0)).1 ct) ∧ g < gt ∧ RowN W gt (ls.getD j (0, 0)).1 9 ∧ W.cell? ⟨g, j * 3 + 2, none⟩ = some (.slice (some ⟨gn, 0, none⟩) (ls.getD j (0, 0)).2 cn) ∧ g < gn ∧ RowN W gn (ls.getD j (0, 0)).2 3 := by
  obtain ⟨cs, h1, h2, h3⟩ := h
  obtain ⟨gt, ct, gn, cn, a1, a2, a3, a4, a5, a6⟩ := h3 j hj
  exact ⟨cs, cs[j * 3]'(by omega), gt, ct, gn, cn, h1, (blkc h1 (j * 3)).trans (Array.getElem?_eq_getElem (by omega)), (blkc h1 (j * 3 + 1)).trans a1, a2, a3, (blkc h1 (j * 3 + 2)).trans a4, a5, a6⟩
theorem DocAt.str {w : World} {g : Nat} {V : List Vl} (h : DocAt w g V) : StrV w g (V.map fun v => (v.2.1.length, v.2.2.length)) := by
  obtain ⟨cs, h1, h2, h3⟩ := h
  refine ⟨cs, h1, by rw [List.length_map]; exact h2, fun j hj => ?_⟩
  rw [List.length_map] at hj
  have e : (V.map fun v => (v.2.1.length, v.2.2.length)).getD j (0, 0) = ((V.getD j vl0).2.1.length, (V.getD j vl0).2.2.length) := by simp [List.getD_eq_getElem?_getD, hj]
  rw [e]
  obtain ⟨_, ⟨gt, ct, q1, q2, cu, q3, q4, _⟩, gn, cn, q5, q6, cv, q7, q8, _⟩ := h3 j hj
  exact ⟨gt, ct, gn, cn, q1, q2, ⟨cu, q3, q4⟩, q5, q6, ⟨cv, q7, q8⟩⟩
/-- What marking does. -/
def MarkV (w : World) (g : Nat) (e : Ending) (w' : World) : Prop := ∃ k : Nat, e = .returned (.int .i64 (k : Int)) ∧ Fv w w' g
set_option maxHeartbeats 1000000 in
theorem markVals_any (g c K0 : Nat) (ls : List (Nat × Nat)) (w : World) (hK0 : 1 ≤ K0) (hK1 : K0 ≤ 4398046511104) (hn : ls.length ≤ 1048576) (hl : ∀ i, (ls.getD i (0, 0)).1 ≤ 1048576 ∧ (ls.getD i (0, 0)).2 ≤ 1048576) (h : StrV w g ls) :
    Calls Tryz.prog 44 #[.slice (some ⟨g, 0, none⟩) ls.length c, .int .i64 (K0 : Int)] w fun e w' => MarkV w g e w' := by
  have HS := hidd h
  have HL := hidd hl
  clear h hl
  go_enter Tryz.func44, Tryz.ntmps44
  go_wp2
  go_loopw [1, 5] (fun kv iv wr => ∃ i k : Nat, i ≤ ls.length ∧ iv = .int .i64 (i : Int) ∧ kv = .int .i64 (k : Int) ∧ 1 ≤ k ∧ k ≤ K0 + i * 2097153 ∧ Fv w wr g) (fun _ iv _ => ls.length - (intOf iv).toNat)
  case atStart => exact ⟨0, K0, Nat.zero_le _, rfl, rfl, by omega, by omega, Fv.refl _ _⟩
  case round =>
    obtain ⟨i, k, hi, rfl, rfl, hk0, hk, hfz⟩ := hrel
    have HF := hidd hfz
    clear hfz
    by_cases hlt : i < ls.length
    · have hltz : (i : Int) < (ls.length : Int) := by omega
      have hkb : k ≤ 6597071863808 := by
        have : i * 2097153 ≤ 1048575 * 2097153 := Nat.mul_le_mul_right _ (by omega)
        omega
      have HM := hidd (fun W => markText_big (k : Int) W (by omega) (by omega))
      have hle := HL.out i
      obtain ⟨pp, hpp⟩ : ∃ pp, ls.getD i (0, 0) = pp := ⟨_, rfl⟩
      have Hpp := hidd hpp
      rw [hpp] at hle
      clear hpp
      obtain ⟨n1, n2⟩ := pp
      dsimp only at hle
      generalize mkText (k : Int) = T at HM
      obtain ⟨cs0, u0, gt0, ct0, gn0, cn0, _, z0, _, _, _, _, _, _⟩ := (HF.out.str _ _ HS.out).at hlt
      go_wp2_with fail
      refine (HM.out _).mono ?_
      rintro e w2 ⟨rfl, hb2⟩
      have HF2 := hidd (HF.out.trans (Fv.of hb2 g))
      clear hb2 HM z0
      obtain ⟨cs, u, gt, ct, gn, cn, h1, q0, q1, hgt, hrt, q2, hgn, hrn⟩ := (HF2.out.str _ _ HS.out).at hlt
      rw [Hpp.out] at q1 q2 hrt hrn
      dsimp only at q1 q2 hrt hrn
      have f0 := blkf h1 (i * 3)
      have Hz := hidd (Fv.setV (i := i) (.string T) h1 (Nat.le_refl g))
      have H1 := hidd h1
      have r1 : (w2.setCell ⟨g, i * 3, none⟩ (.string T)).cell? ⟨g, i * 3 + 1, none⟩ = some (.slice (some ⟨gt, 0, none⟩) n1 ct) := by
        rw [blkc (blk_setk h1 (i * 3) (.string T)) (i * 3 + 1), Array.getElem?_setIfInBounds_ne (by omega), ← blkc h1 (i * 3 + 1)]
        exact q1
      have Hrt := hidd (Hz.out.row _ _ _ hrt)
      clear h1 hrt hrn q1 q2 hgn
      dsimp only
      go_upto_region 6 with fail
      obtain ⟨ws, hws⟩ : ∃ ws, w2.setCell ⟨g, i * 3, none⟩ (.string T) = ws := ⟨_, rfl⟩
      rw [hws] at Hz r1 Hrt
      try rw [hws]
      clear hws q0 f0 H1
      have HF3 := hidd (HF2.out.trans Hz.out)
      clear HF2 Hz
      have hle1 := hle.1
      have hle2 := hle.2
      clear hle
      have HM1 := hidd (markTx_any gt n1 ct (k + 1) ws hle1 (by omega) (by omega) Hrt.out)
      rw [show ((k + 1 : Nat) : Int) = (k : Int) + 1 from by omega] at HM1
      go_wp2_with fail
      refine HM1.out.mono ?_
      rintro e w3 ⟨rfl, hf3⟩
      have HF4 := hidd (HF3.out.trans (hf3.mono (by omega)))
      clear hf3 HM1 r1 Hrt
      obtain ⟨cs3, u3, gt3, ct3, gn3, cn3, _, _, _, _, _, r2, hgn3, hrn3⟩ := (HF4.out.str _ _ HS.out).at hlt
      rw [Hpp.out] at r2 hrn3
      dsimp only at r2 hrn3
      have HM2 := hidd (markNz_any gn3 n2 cn3 (k + 1 + n1) w3 hle2 (by omega) hrn3)
      clear hrn3
      dsimp only
      go_wp2_with fail
      refine HM2.out.mono ?_
      rintro e w5 ⟨rfl, hf5⟩
      have HF5 := hidd (HF4.out.trans (hf5.mono (by omega)))
      clear hf5 HM2 r2
      dsimp only
      go_wp2_with fail
      go_roundw
      case rel => exact ⟨i + 1, k + 1 + n1 + n2, by omega, by go_num, rfl, by omega, by omega, HF5.out⟩
      case measure => simp [intOf]; omega
    · have hltz : ¬ (i : Int) < (ls.length : Int) := by omega
      go_wp2
      go_ret
      exact ⟨k, rfl, HF.out⟩
set_option maxHeartbeats 1000000 in
theorem markDoc_any (id : List UInt8) (g cap K0 : Nat) (ls : List (Nat × Nat)) (w : World) (hK0 : 1 ≤ K0) (hK1 : K0 ≤ 4398046511104) (hn : ls.length ≤ 1048576) (hl : ∀ i, (ls.getD i (0, 0)).1 ≤ 1048576 ∧ (ls.getD i (0, 0)).2 ≤ 1048576) (h : StrV w g ls) :
    Calls Tryz.prog 18 #[.agg #[.string ⟨id.toArray⟩, .slice (some ⟨g, 0, none⟩) ls.length cap], .int .i64 (K0 : Int)] w fun e w' => ∃ k : Nat, e = .returned (.int .i64 (k : Int)) ∧ Fv (w.alloc (.cells #[.string ⟨id.toArray⟩, .slice (some ⟨g, 0, none⟩) ls.length cap] 37)) w' g := by
  have HM := hidd (markVals_any g cap K0 ls (w.alloc (.cells #[.string ⟨id.toArray⟩, .slice (some ⟨g, 0, none⟩) ls.length cap] 37)) hK0 hK1 hn hl ((Fv.of ((Below.refl _ _).alloc (Nat.le_refl _) _) g).str _ _ h))
  clear h hl
  go_enter Tryz.func18, Tryz.ntmps18
  go_wp2_with fail
  refine HM.out.mono ?_
  rintro e w2 ⟨k, rfl, hf⟩
  have HF := hidd hf
  clear hf
  dsimp only
  go_wp2_with fail
  go_ret
  exact ⟨k, rfl, HF.out⟩
end Go.Proofs.YtgoklapafidpkaaGreatDoor
