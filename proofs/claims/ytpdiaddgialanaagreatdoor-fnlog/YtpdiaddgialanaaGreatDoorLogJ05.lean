import Derived.Test.YtpdiaddgialanaaGreatDoorLogJ04
import Derived.Test.YtpdiaddgialanaaGreatDoorLogJ01
import Derived.Laws.AppendOwn
import Derived.Laws.OwnMore
namespace Go.Proofs.YtpdiaddgialanaaGreatDoor
open Go Go.RowKit
set_option linter.unusedVariables false
set_option linter.unusedSimpArgs false
set_option maxRecDepth 100000

/-! A schema is drawn: five fields, of which only the names and kinds are told here. -/
def SchAt (w : World) (g : Nat) : Prop := ∀ i, i < 5 → ∃ (nm : List UInt8) (kd : Int), nm.length ≤ 8 ∧ w.cell? ⟨g, i * 9, none⟩ = some (.string ⟨nm.toArray⟩) ∧ w.cell? ⟨g, i * 9 + 1, none⟩ = some (.int .i64 kd)
theorem SchAt.but {X : Nat → Prop} {w w' : World} {g : Nat} (h : SchAt w g) (hb : But X w w') (hx : ¬ X g) : SchAt w' g := fun i hi => by
  obtain ⟨nm, kd, h1, h2, h3⟩ := h i hi
  exact ⟨nm, kd, h1, (hb.cell (p := ⟨g, i * 9, none⟩) (cell_lt h2) hx).trans h2, (hb.cell (p := ⟨g, i * 9 + 1, none⟩) (cell_lt h3) hx).trans h3⟩
theorem SchAt.new {w : World} {g : Nat} {fo st ph : Bool} {aS aY : Option Addr} {ns cS ny cY : Nat} {lo hi : Int} (h : w.heap[g]? = some (.cells #[.string ⟨#[98, 111, 100, 121]⟩, .int .i64 1, .bool fo, .bool st, .bool ph, .slice aS ns cS, .slice aY ny cY, .int .i64 lo, .int .i64 hi, .string ⟨#[112, 114, 105, 99, 101]⟩, .int .i64 3, .bool false, .bool false, .bool false, .slice none 0 0, .slice none 0 0, .int .i64 0, .int .i64 0, .string ⟨#[116, 97, 103]⟩, .int .i64 2, .bool false, .bool false, .bool false, .slice none 0 0, .slice none 0 0, .int .i64 0, .int .i64 0, .string ⟨#[116, 105, 116, 108, 101]⟩, .int .i64 1, .bool true, .bool false, .bool false, .slice none 0 0, .slice none 0 0, .int .i64 0, .int .i64 0, .string ⟨#[121, 101, 97, 114]⟩, .int .i64 3, .bool false, .bool false, .bool false, .slice none 0 0, .slice none 0 0, .int .i64 0, .int .i64 0] 116)) : SchAt w g := fun i hi => by
  rcases (by omega : i = 0 ∨ i = 1 ∨ i = 2 ∨ i = 3 ∨ i = 4) with rfl | rfl | rfl | rfl | rfl
  · exact ⟨[98, 111, 100, 121], 1, by decide, blkc h 0, blkc h 1⟩
  · exact ⟨[112, 114, 105, 99, 101], 3, by decide, blkc h 9, blkc h 10⟩
  · exact ⟨[116, 97, 103], 2, by decide, blkc h 18, blkc h 19⟩
  · exact ⟨[116, 105, 116, 108, 101], 1, by decide, blkc h 27, blkc h 28⟩
  · exact ⟨[121, 101, 97, 114], 3, by decide, blkc h 36, blkc h 37⟩
theorem But.setN {X : Nat → Prop} {a b : World} (h : But X a b) (g k : Nat) (u : Value) (hg : a.heap.size ≤ g) : But X a (b.setCell ⟨g, k, none⟩ u) :=
  ⟨h.os, h.tape, h.output, by have := h.size; simpa using this, fun i hi hn => (heap_set_other b g k u i (by omega)).trans (h.block i hi hn)⟩
theorem But.more {X : Nat → Prop} {a b c : World} (h : But X a b) (k : But X b c) : But X a c := h.trans k (fun _ _ h => h) (fun _ _ h => h)
theorem But.blk {X : Nat → Prop} {a b : World} (h : But X a b) {g : Nat} {o : Obj} (hg : a.heap[g]? = some o) (hx : ¬ X g) : b.heap[g]? = some o := (h.block g (Array.getElem?_eq_some_iff.1 hg).1 hx).trans hg
def DrawnS (w : World) (b : Nat) (ao : Option Addr) (n cap : Nat) (A : Int) (e : Ending) (w' : World) : Prop :=
  ∃ g m c, e = .returned (.agg #[.slice (some ⟨g, 0, none⟩) m c]) ∧ 1 ≤ m ∧ m ≤ 5 ∧ SchAt w' g ∧ w.heap.size ≤ g ∧ Sx b ao n cap w' A ∧ But (fun x => x = b) w w'
set_option maxHeartbeats 8000000 in
theorem schema_any (b : Nat) (ao : Option Addr) (n cap : Nat) (A : Int) (w : World) (hn : n ≤ 1048576) (hA : A ≤ 100000) (hs : Sx b ao n cap w A) (hcb : ∀ j, j < n → ∃ blk off, ao = some ⟨blk, off, none⟩ ∧ blk < w.heap.size) :
    Calls Tryz.prog 32 #[.pointer (some ⟨b, 0, none⟩)] w (DrawnS w b ao n cap (A + 66)) := by
  have HS := hidd hs
  have HC := hidd hcb
  have hlt := hs.lt
  clear hs hcb
  go_enter Tryz.func32, Tryz.ntmps32
  go_upto_region 1 with fail
  have HB1 : Hid (Below w.heap.size w (w.alloc (.cells #[.slice none 0 0] 84))) := (Below.refl _ _).alloc (Nat.le_refl _) _
  have HX1 := hidd (heap_alloc_new w (.cells #[.slice none 0 0] 84))
  obtain ⟨g2, hg2⟩ : ∃ g, w.heap.size = g := ⟨_, rfl⟩
  have HG : Hid (w.heap.size ≤ g2 ∧ b ≠ g2) := ⟨Nat.le_of_eq hg2, by omega⟩
  rw [hg2] at HX1
  simp only [hg2]
  clear hg2
  generalize w.alloc (.cells #[.slice none 0 0] 84) = w1 at *
  have HS1 := hidd (HS.out.below HB1.out)
  go_wp2_with fail
  refine (drawAz_any b ao n cap A w1 hn (by omega) HS1.out (fun j hj => by obtain ⟨blk, off, h1, h2⟩ := HC.out j hj; exact ⟨blk, off, h1, Nat.lt_of_lt_of_le h2 HB1.out.size⟩)).mono ?_
  rintro e w2 ⟨fo, st, ph, aS, aY, cS, cY, stops, syns, lo, hi, rfl, hs2, hb2, -⟩
  obtain ⟨ns, hns⟩ : ∃ k, stops.length = k := ⟨_, rfl⟩
  obtain ⟨ny, hny⟩ : ∃ k, syns.length = k := ⟨_, rfl⟩
  rw [hns, hny]
  clear hns hny
  have HS2 := hidd hs2
  have HB2 := hidd ((But.of_below HB1.out).more hb2)
  have HX2 := hidd (hb2.blk HX1.out (fun e => HG.out.2 e.symm))
  clear hs2 hb2 HS1 HB1 HX1 stops syns
  go_upto_region 2 with fail
  have hbA : Below w2.heap.size w2 (w2.alloc (.cells #[.string ⟨#[98, 111, 100, 121]⟩, .int .i64 1, .bool fo, .bool st, .bool ph, .slice aS ns cS, .slice aY ny cY, .int .i64 lo, .int .i64 hi, .string ⟨#[112, 114, 105, 99, 101]⟩, .int .i64 3, .bool false, .bool false, .bool false, .slice none 0 0, .slice none 0 0, .int .i64 0, .int .i64 0, .string ⟨#[116, 97, 103]⟩, .int .i64 2, .bool false, .bool false, .bool false, .slice none 0 0, .slice none 0 0, .int .i64 0, .int .i64 0, .string ⟨#[116, 105, 116, 108, 101]⟩, .int .i64 1, .bool true, .bool false, .bool false, .slice none 0 0, .slice none 0 0, .int .i64 0, .int .i64 0, .string ⟨#[121, 101, 97, 114]⟩, .int .i64 3, .bool false, .bool false, .bool false, .slice none 0 0, .slice none 0 0, .int .i64 0, .int .i64 0] 116)) := (Below.refl _ _).alloc (Nat.le_refl _) _
  have HF := hidd (SchAt.new (heap_alloc_new w2 (.cells #[.string ⟨#[98, 111, 100, 121]⟩, .int .i64 1, .bool fo, .bool st, .bool ph, .slice aS ns cS, .slice aY ny cY, .int .i64 lo, .int .i64 hi, .string ⟨#[112, 114, 105, 99, 101]⟩, .int .i64 3, .bool false, .bool false, .bool false, .slice none 0 0, .slice none 0 0, .int .i64 0, .int .i64 0, .string ⟨#[116, 97, 103]⟩, .int .i64 2, .bool false, .bool false, .bool false, .slice none 0 0, .slice none 0 0, .int .i64 0, .int .i64 0, .string ⟨#[116, 105, 116, 108, 101]⟩, .int .i64 1, .bool true, .bool false, .bool false, .slice none 0 0, .slice none 0 0, .int .i64 0, .int .i64 0, .string ⟨#[121, 101, 97, 114]⟩, .int .i64 3, .bool false, .bool false, .bool false, .slice none 0 0, .slice none 0 0, .int .i64 0, .int .i64 0] 116)))
  have HS3 := hidd (HS2.out.below hbA)
  have HB3 := hidd (HB2.out.more (But.of_below hbA))
  have HX3 := hidd (blko HX2.out hbA)
  have HFs : Hid (w2.heap.size < (w2.alloc (.cells #[.string ⟨#[98, 111, 100, 121]⟩, .int .i64 1, .bool fo, .bool st, .bool ph, .slice aS ns cS, .slice aY ny cY, .int .i64 lo, .int .i64 hi, .string ⟨#[112, 114, 105, 99, 101]⟩, .int .i64 3, .bool false, .bool false, .bool false, .slice none 0 0, .slice none 0 0, .int .i64 0, .int .i64 0, .string ⟨#[116, 97, 103]⟩, .int .i64 2, .bool false, .bool false, .bool false, .slice none 0 0, .slice none 0 0, .int .i64 0, .int .i64 0, .string ⟨#[116, 105, 116, 108, 101]⟩, .int .i64 1, .bool true, .bool false, .bool false, .slice none 0 0, .slice none 0 0, .int .i64 0, .int .i64 0, .string ⟨#[121, 101, 97, 114]⟩, .int .i64 3, .bool false, .bool false, .bool false, .slice none 0 0, .slice none 0 0, .int .i64 0, .int .i64 0] 116)).heap.size) := by simp [Hid]
  clear hbA
  obtain ⟨gf, hgf⟩ : ∃ g, w2.heap.size = g := ⟨_, rfl⟩
  have HGf : Hid (w.heap.size ≤ gf ∧ b ≠ gf ∧ gf ≠ g2) := ⟨by have := HB2.out.size; omega, by have := HS2.out.lt; omega, by have := (Array.getElem?_eq_some_iff.1 HX2.out).1; omega⟩
  rw [hgf] at HF
  simp only [hgf]
  clear hgf HS2 HB2 HX2 HFs
  generalize w2.alloc (.cells #[.string ⟨#[98, 111, 100, 121]⟩, .int .i64 1, .bool fo, .bool st, .bool ph, .slice aS ns cS, .slice aY ny cY, .int .i64 lo, .int .i64 hi, .string ⟨#[112, 114, 105, 99, 101]⟩, .int .i64 3, .bool false, .bool false, .bool false, .slice none 0 0, .slice none 0 0, .int .i64 0, .int .i64 0, .string ⟨#[116, 97, 103]⟩, .int .i64 2, .bool false, .bool false, .bool false, .slice none 0 0, .slice none 0 0, .int .i64 0, .int .i64 0, .string ⟨#[116, 105, 116, 108, 101]⟩, .int .i64 1, .bool true, .bool false, .bool false, .slice none 0 0, .slice none 0 0, .int .i64 0, .int .i64 0, .string ⟨#[121, 101, 97, 114]⟩, .int .i64 3, .bool false, .bool false, .bool false, .slice none 0 0, .slice none 0 0, .int .i64 0, .int .i64 0] 116) = w3 at *
  go_wp2_with fail
  refine (chanceS HS3.out hn (by omega) 6 (by omega) (by omega)).mono ?_
  rintro e w4 ⟨x, rfl, hs4, hb4⟩
  have HS4 := hidd hs4
  have HB4 := hidd (HB3.out.more hb4)
  have HX4 := hidd (hb4.blk HX3.out (fun e => HG.out.2 e.symm))
  have HF4 := hidd (HF.out.but hb4 (fun e => HGf.out.2.1 e.symm))
  clear hs4 hb4 HS3 HB3 HX3 HF
  cases x with
  | true =>
    go_wp2_with fail
    refine (nextS HS4.out hn (by omega) 5 (by omega) (by omega)).mono ?_
    rintro e w5 ⟨y, rfl, hy, hs5, hb5⟩
    have HS5 := hidd (hs5.mono (A' := A + 66) (by omega))
    have HB5 := hidd (HB4.out.more hb5)
    have HX5 := hidd (hb5.blk HX4.out (fun e => HG.out.2 e.symm))
    have HF5 := hidd (HF4.out.but hb5 (fun e => HGf.out.2.1 e.symm))
    clear hs5 hb5 HS4 HB4 HX4 HF4
    have y0 := blkc HX5.out 0
    have y1 := blkf HX5.out 0
    simp only [List.getElem?_toArray, List.getElem?_cons_zero] at y0
    obtain ⟨m, hm⟩ : ∃ m : Nat, 1 + (y : Int) = (m : Int) := ⟨1 + y, by omega⟩
    have hm1 : 1 ≤ m ∧ m ≤ 5 := by omega
    have hm5 : (m : Int) ≤ 5 := by omega
    go_wp2
    have hfin := hidd (blk_setk HX5.out 0 (.slice (some ⟨gf, 0, none⟩) m 5))
    have hS := HS5.out.set g2 0 (.slice (some ⟨gf, 0, none⟩) m 5) (fun e => HG.out.2 e.symm) (fun j hj => by obtain ⟨blk, off, h1, h2⟩ := HC.out j hj; exact ⟨blk, off, h1, by have := HG.out.1; omega⟩)
    have hB := HB5.out.setN g2 0 (.slice (some ⟨gf, 0, none⟩) m 5) HG.out.1
    have hF := HF5.out.but ((But.refl (fun x => x = g2) w5).set g2 0 (.slice (some ⟨gf, 0, none⟩) m 5) rfl) HGf.out.2.2
    refine bodyPost_ret (v := .agg #[.slice (some ⟨gf, 0, none⟩) m 5]) ?_ rfl ⟨gf, m, 5, rfl, hm1.1, hm1.2, hF, HGf.out.1, hS, hB⟩
    clear hS hB hF
    generalize w5.setCell ⟨g2, 0, none⟩ (.slice (some ⟨gf, 0, none⟩) m 5) = wf at *
    have z0 := blkc hfin.out 0
    simp at z0
    simp [results, Tryz.results32, go_sem, z0]
  | false =>
    have y0 := blkc HX4.out 0
    have y1 := blkf HX4.out 0
    simp only [List.getElem?_toArray, List.getElem?_cons_zero] at y0
    go_wp2
    have hfin := hidd (blk_setk HX4.out 0 (.slice (some ⟨gf, 0, none⟩) 5 5))
    have hS := HS4.out.set g2 0 (.slice (some ⟨gf, 0, none⟩) 5 5) (fun e => HG.out.2 e.symm) (fun j hj => by obtain ⟨blk, off, h1, h2⟩ := HC.out j hj; exact ⟨blk, off, h1, by have := HG.out.1; omega⟩)
    have hB := HB4.out.setN g2 0 (.slice (some ⟨gf, 0, none⟩) 5 5) HG.out.1
    have hF := HF4.out.but ((But.refl (fun x => x = g2) w4).set g2 0 (.slice (some ⟨gf, 0, none⟩) 5 5) rfl) HGf.out.2.2
    refine bodyPost_ret (v := .agg #[.slice (some ⟨gf, 0, none⟩) 5 5]) ?_ rfl ⟨gf, 5, 5, rfl, (by omega), (by omega), hF, HGf.out.1, hS.mono (by omega), hB⟩
    clear hS hB hF
    generalize w4.setCell ⟨g2, 0, none⟩ (.slice (some ⟨gf, 0, none⟩) 5 5) = wf at *
    have z0 := blkc hfin.out 0
    simp at z0
    simp [results, Tryz.results32, go_sem, z0]
end Go.Proofs.YtpdiaddgialanaaGreatDoor

namespace Go.Proofs.YtpdiaddgialanaaGreatDoor
open Go Go.RowKit
set_option linter.unusedVariables false
set_option maxRecDepth 100000

abbrev Vl := List UInt8 × List (List UInt8) × List Int
abbrev Dc := List UInt8 × List Vl
def vl0 : Vl := ([], [], [])
/-- Texts, numbers, values, as they lie in a world. -/
def HoldTx (w : World) (a : Option Addr) (l : List (List UInt8)) : Prop := l = [] ∨ ∃ b off, a = some ⟨b, off, none⟩ ∧ b < w.heap.size ∧ ∀ i, i < l.length → w.cell? ⟨b, off + i, none⟩ = some (.string ⟨(l.getD i []).toArray⟩)
def HoldZ (w : World) (a : Option Addr) (l : List Int) : Prop := l = [] ∨ ∃ b off, a = some ⟨b, off, none⟩ ∧ b < w.heap.size ∧ ∀ i, i < l.length → w.cell? ⟨b, off + i, none⟩ = some (.int .i64 (l.getD i 0))
def HoldV (w : World) (a : Option Addr) (V : List Vl) : Prop := V = [] ∨ ∃ b off, a = some ⟨b, off, none⟩ ∧ b < w.heap.size ∧ ∀ i, i < V.length → w.cell? ⟨b, off + i * 3, none⟩ = some (.string ⟨(V.getD i vl0).1.toArray⟩) ∧
  (∃ at_ ct, w.cell? ⟨b, off + i * 3 + 1, none⟩ = some (.slice at_ (V.getD i vl0).2.1.length ct) ∧ HoldTx w at_ (V.getD i vl0).2.1) ∧ ∃ an cn, w.cell? ⟨b, off + i * 3 + 2, none⟩ = some (.slice an (V.getD i vl0).2.2.length cn) ∧ HoldZ w an (V.getD i vl0).2.2
theorem HoldTx.below {w w' : World} {a : Option Addr} {l : List (List UInt8)} (h : HoldTx w a l) (hb : Below w.heap.size w w') : HoldTx w' a l := by
  rcases h with h | ⟨b, off, ha, hbl, h⟩
  · exact Or.inl h
  · exact Or.inr ⟨b, off, ha, Nat.lt_of_lt_of_le hbl hb.size, fun i hi => (hb.cell (p := ⟨b, off + i, none⟩) hbl).trans (h i hi)⟩
theorem HoldZ.below {w w' : World} {a : Option Addr} {l : List Int} (h : HoldZ w a l) (hb : Below w.heap.size w w') : HoldZ w' a l := by
  rcases h with h | ⟨b, off, ha, hbl, h⟩
  · exact Or.inl h
  · exact Or.inr ⟨b, off, ha, Nat.lt_of_lt_of_le hbl hb.size, fun i hi => (hb.cell (p := ⟨b, off + i, none⟩) hbl).trans (h i hi)⟩
theorem HoldV.below {w w' : World} {a : Option Addr} {V : List Vl} (h : HoldV w a V) (hb : Below w.heap.size w w') : HoldV w' a V := by
  rcases h with h | ⟨b, off, ha, hbl, h⟩
  · exact Or.inl h
  · refine Or.inr ⟨b, off, ha, Nat.lt_of_lt_of_le hbl hb.size, fun i hi => ?_⟩
    obtain ⟨h1, ⟨at_, ct, h2, h3⟩, an, cn, h4, h5⟩ := h i hi
    exact ⟨(hb.cell (p := ⟨b, off + i * 3, none⟩) hbl).trans h1, ⟨at_, ct, (hb.cell (p := ⟨b, off + i * 3 + 1, none⟩) hbl).trans h2, h3.below hb⟩, an, cn, (hb.cell (p := ⟨b, off + i * 3 + 2, none⟩) hbl).trans h4, h5.below hb⟩
def mkS (t : List UInt8) : Value := .string ⟨t.toArray⟩
def mkI (z : Int) : Value := .int .i64 z
/-- A row of its own, of type ty, that begins with the cells of l. -/
def RowF {X : Type} (mk : X → Value) (ty : TypeId) (d : X) (w : World) (g : Nat) (l : List X) : Prop := ∃ cur, w.heap[g]? = some (Obj.cells cur ty) ∧ l.length ≤ cur.size ∧ ∀ i, i < l.length → cur[i]? = some (mk (l.getD i d))
abbrev RowTx (w : World) (g : Nat) (l : List (List UInt8)) : Prop := RowF mkS 9 [] w g l
abbrev RowNz (w : World) (g : Nat) (l : List Int) : Prop := RowF mkI 3 0 w g l
theorem RowF.keep {X : Type} {mk : X → Value} {ty : TypeId} {d : X} {w w' : World} {g : Nat} {l : List X} (h : RowF mk ty d w g l) (hk : w'.heap[g]? = w.heap[g]?) : RowF mk ty d w' g l := by
  obtain ⟨cur, h1, h2, h3⟩ := h
  exact ⟨cur, hk.trans h1, h2, h3⟩
theorem RowF.lt {X : Type} {mk : X → Value} {ty : TypeId} {d : X} {w : World} {g : Nat} {l : List X} (h : RowF mk ty d w g l) : g < w.heap.size := by
  obtain ⟨cur, h1, h2, h3⟩ := h
  exact (Array.getElem?_eq_some_iff.1 h1).1
theorem RowF.below {X : Type} {mk : X → Value} {ty : TypeId} {d : X} {w w' : World} {g : Nat} {l : List X} (h : RowF mk ty d w g l) (hb : Below w.heap.size w w') : RowF mk ty d w' g l := h.keep (hb.block g h.lt)
theorem RowTx.hold {w : World} {g : Nat} {l : List (List UInt8)} (h : RowTx w g l) : HoldTx w (some ⟨g, 0, none⟩) l := by
  refine Or.inr ⟨g, 0, rfl, h.lt, fun i hi => ?_⟩
  obtain ⟨cur, h1, h2, h3⟩ := h
  rw [Nat.zero_add, blkc h1, h3 i hi]; rfl
theorem RowNz.hold {w : World} {g : Nat} {l : List Int} (h : RowNz w g l) : HoldZ w (some ⟨g, 0, none⟩) l := by
  refine Or.inr ⟨g, 0, rfl, h.lt, fun i hi => ?_⟩
  obtain ⟨cur, h1, h2, h3⟩ := h
  rw [Nat.zero_add, blkc h1, h3 i hi]; rfl
/-- One value, as three cells tell it, all of it behind B. -/
def ValAt (w : World) (B : Nat) (c0 c1 c2 : Option Value) (v : Vl) : Prop := c0 = some (mkS v.1) ∧ (∃ gt ct, c1 = some (.slice (some ⟨gt, 0, none⟩) v.2.1.length ct) ∧ B < gt ∧ RowTx w gt v.2.1) ∧ ∃ gn cn, c2 = some (.slice (some ⟨gn, 0, none⟩) v.2.2.length cn) ∧ B < gn ∧ RowNz w gn v.2.2
theorem ValAt.keep {w w' : World} {B : Nat} {c0 c1 c2 : Option Value} {v : Vl} (h : ValAt w B c0 c1 c2 v) (hk : ∀ b, B < b → b < w.heap.size → w'.heap[b]? = w.heap[b]?) : ValAt w' B c0 c1 c2 v := by
  obtain ⟨h0, ⟨gt, ct, h1, h2, h3⟩, gn, cn, h4, h5, h6⟩ := h
  exact ⟨h0, ⟨gt, ct, h1, h2, h3.keep (hk gt h2 h3.lt)⟩, gn, cn, h4, h5, h6.keep (hk gn h5 h6.lt)⟩
def DocAt (w : World) (g : Nat) (V : List Vl) : Prop := ∃ cs, w.heap[g]? = some (Obj.cells cs 88) ∧ V.length * 3 ≤ cs.size ∧ ∀ j, j < V.length → ValAt w g cs[j * 3]? cs[j * 3 + 1]? cs[j * 3 + 2]? (V.getD j vl0)
theorem DocAt.lt {w : World} {g : Nat} {V : List Vl} (h : DocAt w g V) : g < w.heap.size := by
  obtain ⟨cs, h1, _⟩ := h
  exact (Array.getElem?_eq_some_iff.1 h1).1
theorem DocAt.keep {w w' : World} {g : Nat} {V : List Vl} (h : DocAt w g V) (hk : ∀ b, g ≤ b → b < w.heap.size → w'.heap[b]? = w.heap[b]?) : DocAt w' g V := by
  have hl := h.lt
  obtain ⟨cs, h1, h2, h3⟩ := h
  exact ⟨cs, (hk g (Nat.le_refl _) hl).trans h1, h2, fun j hj => (h3 j hj).keep fun b hb hb2 => hk b (by omega) hb2⟩
theorem DocAt.below {w w' : World} {g : Nat} {V : List Vl} (h : DocAt w g V) (hb : Below w.heap.size w w') : DocAt w' g V := h.keep fun b _ hb2 => hb.block b hb2
theorem DocAt.set {w : World} {g : Nat} {V : List Vl} (h : DocAt w g V) (B j : Nat) (u : Value) (hB : B < g) : DocAt (w.setCell ⟨B, j, none⟩ u) g V := h.keep fun b hb _ => heap_set_other w B j u b (by omega)
theorem DocAt.hold {w : World} {g : Nat} {V : List Vl} (h : DocAt w g V) : HoldV w (some ⟨g, 0, none⟩) V := by
  have hl := h.lt
  obtain ⟨cs, h1, h2, h3⟩ := h
  refine Or.inr ⟨g, 0, rfl, hl, fun i hi => ?_⟩
  obtain ⟨q0, ⟨gt, ct, q1, q2, q3⟩, gn, cn, q4, q5, q6⟩ := h3 i hi
  rw [Nat.zero_add, blkc h1, blkc h1, blkc h1]
  exact ⟨q0, ⟨_, ct, q1, q3.hold⟩, _, cn, q4, q6.hold⟩
end Go.Proofs.YtpdiaddgialanaaGreatDoor

namespace Go.Proofs.YtpdiaddgialanaaGreatDoor
open Go Go.RowKit
set_option linter.unusedVariables false
set_option linter.unusedSimpArgs false
set_option maxRecDepth 100000

/-! A value of a document that is being drawn: a box of its own, rows of its own. -/
theorem proseS {b : Nat} {ao : Option Addr} {n cap : Nat} {W : World} {A : Int} (h : Sx b ao n cap W A) (hn : n ≤ 1048576) (hA : A ≤ 274877906944) (N : Nat) (hN : N ≤ 1000) :
    Calls Tryz.prog 59 #[.pointer (some ⟨b, 0, none⟩), .int .i64 (N : Int)] W fun e w' => ∃ t : ByteArray, e = .returned (.string t) ∧ t.size ≤ 32 * N ∧ Sx b ao n cap w' (A + 6 * (N : Int)) ∧ But (fun x => x = b) W w' := by
  obtain ⟨a, sd, h1, h2, h3, h4, h5, h6⟩ := h
  refine (prose_any b ao n cap a sd N W hn hN h1 (by omega) h3 h4 h5 h6).mono ?_
  rintro e w1 ⟨t, a1, sd1, rfl, ht, ha3, ha4, hsd0, hsd1, hs1', hg1⟩
  exact ⟨t, rfl, ht, ⟨a1, sd1, by omega, by omega, hsd0, hsd1, hs1', h6.kept hg1⟩, but_grown hg1⟩
theorem Tryz.infoStrL : (Tryz.prog.info? 9).map (fun i => (i.zero, i.size, i.bytes)) = some (some (.string ⟨#[]⟩), 1, 16) := by kernel_rfl
theorem Tryz.infoIntL : (Tryz.prog.info? 3).map (fun i => (i.zero, i.size, i.bytes)) = some (some (.int .i64 0), 1, 8) := by kernel_rfl
theorem Tryz.infoValL : (Tryz.prog.info? 88).map (fun i => (i.zero, i.size, i.bytes)) = some (some (.agg #[.string ⟨#[]⟩, .slice none 0 0, .slice none 0 0]), 3, 64) := by kernel_rfl
def sC (l : List (List UInt8)) : List Value := l.map fun t => .string ⟨t.toArray⟩
def zC (l : List Int) : List Value := l.map fun z => .int .i64 z
theorem sC_snoc (l : List (List UInt8)) (t : List UInt8) : sC (l ++ [t]) = sC l ++ [.string ⟨t.toArray⟩] := by simp [sC]
theorem zC_snoc (l : List Int) (z : Int) : zC (l ++ [z]) = zC l ++ [.int .i64 z] := by simp [zC]
theorem own_ltL {w : World} {base e sz n : Nat} {v : Value} {xs : List Value} (h : w.ownsRow base e sz v n xs) {x : Nat} (hx : v.ownBlock = some x) : x < w.heap.size := by
  obtain ⟨_, cur, hc⟩ := own_blk h hx
  exact (Array.getElem?_eq_some_iff.1 hc).1
theorem own_butL {X : Nat → Prop} {w w' : World} {base e sz n : Nat} {v : Value} {xs : List Value} (h : w.ownsRow base e sz v n xs) (hb : But X w w') (hx : ∀ x, v.ownBlock = some x → ¬ X x) : w'.ownsRow base e sz v n xs :=
  own_congr h fun x hv => hb.block x (own_ltL h hv) (hx x hv)
theorem own_apartL {w : World} {base base' e e' sz sz' n n' : Nat} {v v' : Value} {xs xs' : List Value} (h : w.ownsRow base e sz v n xs) (h' : w.ownsRow base' e' sz' v' n' xs') (hne : e ≠ e') {x : Nat} (hx : v.ownBlock = some x) : v'.ownBlock ≠ some x := fun e1 => by
  obtain ⟨_, c1, h1⟩ := own_blk h hx
  obtain ⟨_, c2, h2⟩ := own_blk h' e1
  rw [h1] at h2
  injection h2 with h2
  injection h2 with _ h2
  exact hne h2
theorem own_apartB {w : World} {base e sz n g : Nat} {v : Value} {xs : List Value} {cs : Array Value} {t : TypeId} (h : w.ownsRow base e sz v n xs) (hg : w.heap[g]? = some (.cells cs t)) (hne : e ≠ t) : v.ownBlock ≠ some g := fun e1 => by
  obtain ⟨_, c1, h1⟩ := own_blk h e1
  rw [h1] at hg
  injection hg with hg
  injection hg with _ hg
  exact hne hg
theorem but_own {w w' : World} {v : Value} (h : w.grownBy w' v.ownBlock) : But (fun x => v.ownBlock = some x) w w' :=
  ⟨h.os, h.tape, h.output, h.size, fun i hi hn => h.block i hi fun e => hn e.symm⟩
theorem Sx.butN {b : Nat} {ao : Option Addr} {n cap : Nat} {W W' : World} {A : Int} {X : Nat → Prop} (h : Sx b ao n cap W A) (hb : But X W W') (hx : ¬ X b) (hc : ∀ j, j < n → ∃ blk off, ao = some ⟨blk, off, none⟩ ∧ blk < W.heap.size ∧ ¬ X blk) : Sx b ao n cap W' A := by
  obtain ⟨a, sd, h1, h2, h3, h4, h5, h6⟩ := h
  refine ⟨a, sd, h1, h2, h3, h4, (hb.block b h5.lt hx).trans h5, fun j hj => ?_⟩
  obtain ⟨blk, off, z, q1, q2, q3, q4, q5⟩ := h6 j hj
  obtain ⟨blk', off', r1, r2, r3⟩ := hc j hj
  rw [q1] at r1
  cases r1
  exact ⟨blk, off, z, q1, q2, q3, q4, (hb.cell (p := ⟨blk, off + j, none⟩) r2 r3).trans q5⟩
structure VI (w0 : World) (b : Nat) (ao : Option Addr) (n cap : Nat) (A : Int) (g7 : Nat) (nm : List UInt8) (tv : Value) (T : List (List UInt8)) (nv : Value) (Z : List Int) (W : World) : Prop where
  src : Sx b ao n cap W A
  but : But (fun x => x = b) w0 W
  box : W.heap[g7]? = some (.cells #[.string ⟨nm.toArray⟩, tv, nv] 88)
  g7l : w0.heap.size ≤ g7
  txt : W.ownsRow w0.heap.size 9 1 tv T.length (sC T)
  num : W.ownsRow w0.heap.size 3 1 nv Z.length (zC Z)
  bl : b < w0.heap.size
  cb : ∀ j, j < n → ∃ blk off, ao = some ⟨blk, off, none⟩ ∧ blk < w0.heap.size
section
variable {w0 W W' : World} {b : Nat} {ao : Option Addr} {n cap : Nat} {A A' : Int} {g7 : Nat} {nm : List UInt8} {tv : Value} {T : List (List UInt8)} {nv : Value} {Z : List Int}
theorem VI.draw (h : VI w0 b ao n cap A g7 nm tv T nv Z W) (hs : Sx b ao n cap W' A') (hb : But (fun x => x = b) W W') : VI w0 b ao n cap A' g7 nm tv T nv Z W' :=
  ⟨hs, h.but.more hb, hb.blk h.box (fun e => by have := h.g7l; have := h.bl; omega), h.g7l, own_butL h.txt hb (fun x hx e => by have := (own_blk h.txt hx).1; have := h.bl; omega), own_butL h.num hb (fun x hx e => by have := (own_blk h.num hx).1; have := h.bl; omega), h.bl, h.cb⟩
theorem VI.below (h : VI w0 b ao n cap A g7 nm tv T nv Z W) (hb : Below W.heap.size W W') : VI w0 b ao n cap A g7 nm tv T nv Z W' := h.draw (h.src.below hb) (But.of_below hb)
theorem VI.mono (h : VI w0 b ao n cap A g7 nm tv T nv Z W) (hA : A ≤ A') : VI w0 b ao n cap A' g7 nm tv T nv Z W := ⟨h.src.mono hA, h.but, h.box, h.g7l, h.txt, h.num, h.bl, h.cb⟩
/-- What grows a row of its own, and then writes into the box. -/
theorem VI.grow {k : Nat} {u : Value} {e : TypeId} {m : Nat} {v : Value} {xs : List Value} (h : VI w0 b ao n cap A g7 nm tv T nv Z W) (hr : W.ownsRow w0.heap.size e 1 v m xs) (he : e ≠ 88) (hg : W.grownBy W' v.ownBlock) :
    Sx b ao n cap (W'.setCell ⟨g7, k, none⟩ u) A ∧ But (fun x => x = b) w0 (W'.setCell ⟨g7, k, none⟩ u) ∧ (W'.setCell ⟨g7, k, none⟩ u).heap[g7]? = some (.cells (#[.string ⟨nm.toArray⟩, tv, nv].setIfInBounds k u) 88) ∧ (∀ y, y ≠ g7 → v.ownBlock ≠ some y → y < W.heap.size → (W'.setCell ⟨g7, k, none⟩ u).heap[y]? = W.heap[y]?) := by
  have hb := but_own hg
  have h7 : W'.heap[g7]? = _ := hb.blk h.box (own_apartB hr h.box he)
  have hg7 := h.g7l
  have hbl := h.bl
  have hX : ∀ x, x < w0.heap.size → ¬ (v.ownBlock = some x) := fun x hx e1 => by have := (own_blk hr e1).1; omega
  refine ⟨(h.src.butN hb (hX b hbl) (fun j hj => ?_)).set g7 k u (by omega) (fun j hj => ?_), ⟨hb.os.trans h.but.os, hb.tape.trans h.but.tape, hb.output.trans h.but.output, ?_, fun i hi hn => ?_⟩, blk_setk h7 k u, fun y hy hy2 hy3 => (heap_set_other _ _ _ _ _ hy).trans (hb.block y hy3 hy2)⟩
  · obtain ⟨blk, off, h1, h2⟩ := h.cb j hj
    exact ⟨blk, off, h1, Nat.lt_of_lt_of_le h2 h.but.size, hX blk h2⟩
  · obtain ⟨blk, off, h1, h2⟩ := h.cb j hj
    exact ⟨blk, off, h1, by omega⟩
  · have := hb.size
    have := h.but.size
    simp
    omega
  · rw [heap_set_other _ _ _ _ _ (by omega), hb.block i (Nat.lt_of_lt_of_le hi h.but.size) (hX i hi)]
    exact h.but.block i hi hn
/-- A text more. -/
theorem VI.pushT {tv' : Value} {x : List UInt8} (h : VI w0 b ao n cap A g7 nm tv T nv Z W) (ho : W'.ownsRow w0.heap.size 9 1 tv' (T ++ [x]).length (sC (T ++ [x]))) (hg : W.grownBy W' tv.ownBlock) : VI w0 b ao n cap A g7 nm tv' (T ++ [x]) nv Z (W'.setCell ⟨g7, 1, none⟩ tv') := by
  obtain ⟨h1, h2, h3, h4⟩ := h.grow (k := 1) (u := tv') h.txt (by decide) hg
  have h7 : W'.heap[g7]? = _ := (but_own hg).blk h.box (own_apartB h.txt h.box (by decide))
  exact ⟨h1, h2, h3, h.g7l, own_congr ho fun y hy => heap_set_other _ _ _ _ _ (fun e => own_apartB ho h7 (by decide) (by rw [hy, e])), own_congr h.num fun y hy => h4 y (fun e => own_apartB h.num h.box (by decide) (by rw [hy, e])) (own_apartL h.num h.txt (by decide) hy) (own_ltL h.num hy), h.bl, h.cb⟩
/-- A number more. -/
theorem VI.pushZ {nv' : Value} {z : Int} (h : VI w0 b ao n cap A g7 nm tv T nv Z W) (ho : W'.ownsRow w0.heap.size 3 1 nv' (Z ++ [z]).length (zC (Z ++ [z]))) (hg : W.grownBy W' nv.ownBlock) : VI w0 b ao n cap A g7 nm tv T nv' (Z ++ [z]) (W'.setCell ⟨g7, 2, none⟩ nv') := by
  obtain ⟨h1, h2, h3, h4⟩ := h.grow (k := 2) (u := nv') h.num (by decide) hg
  have h7 : W'.heap[g7]? = _ := (but_own hg).blk h.box (own_apartB h.num h.box (by decide))
  exact ⟨h1, h2, h3, h.g7l, own_congr h.txt fun y hy => h4 y (fun e => own_apartB h.txt h.box (by decide) (by rw [hy, e])) (own_apartL h.txt h.num (by decide) hy) (own_ltL h.txt hy), own_congr ho fun y hy => heap_set_other _ _ _ _ _ (fun e => own_apartB ho h7 (by decide) (by rw [hy, e])), h.bl, h.cb⟩
theorem VI.cells (h : VI w0 b ao n cap A g7 nm tv T nv Z W) : W.cell? ⟨g7, 0, none⟩ = some (.string ⟨nm.toArray⟩) ∧ W.cell? ⟨g7, 1, none⟩ = some tv ∧ W.cell? ⟨g7, 2, none⟩ = some nv ∧ W.frozen? ⟨g7, 1, none⟩ = false ∧ W.frozen? ⟨g7, 2, none⟩ = false := ⟨blkc h.box 0, blkc h.box 1, blkc h.box 2, blkf h.box 1, blkf h.box 2⟩
end
end Go.Proofs.YtpdiaddgialanaaGreatDoor
