import Derived.Test.YtoinajfliogcdaaDoorNearJ00
import Derived.Lib.RuneBytes
import Derived.ArgAppend
import Derived.Lib.Strings
import Derived.Lib.AppendStr
import Derived.Laws.ShiftsVar
import Derived.Test.YtoinajfliogcdaaDoorProg
import Derived.Handy
import Derived.WalkLawsBesides
import Derived.WalkSpells
import Derived.BigQuiet
import Derived.Deep.QuietTactic
import Derived.BigRegion
import Derived.WalkKit
import Derived.Deep.Heap
import Derived.Deep.CutBlock
import Derived.Deep.RegionWith
namespace Go.Proofs.YtoinajfliogcdaaDoor
open Go Go.RowKit
set_option linter.unusedVariables false

def BytesAt (w : World) (g : Nat) (l : List UInt8) : Prop := ∀ j (hj : j < l.length), w.cell? ⟨g, j, none⟩ = some (.int .u8 (l[j].toNat : Int))
theorem BytesAt.take {w : World} {g : Nat} {l : List UInt8} (h : BytesAt w g l) (k : Nat) : BytesAt w g (l.take k) := fun j hj => by
 rw [List.length_take] at hj
 rw [h j (by omega)]
 simp
theorem BytesAt.text {w : World} {g : Nat} {l : List UInt8} (h : BytesAt w g l) (k cap : Nat) (hk : l.length = k) :
  (convert 22 9 (.slice (some ⟨g, 0, none⟩) k cap)).run Tryd.prog w = .ok (.string ⟨l.toArray⟩) w := by
 subst hk
 exact run_convert_bytes_back w 22 9 5 ⟨g, 0, none⟩ cap l Tryd.underlying22 Tryd.underlying5 Tryd.underlying9 fun j hj => by rw [add_head]; exact h j hj
theorem BytesAt.kept {w w' : World} {g b : Nat} {l : List UInt8} (h : BytesAt w g l) (hg : w.grownBy w' (some b)) (hne : g ≠ b) : BytesAt w' g l := fun j hj => hg.cell (h j hj) (by simpa using hne)
theorem cell_set_same {w : World} {g k : Nat} {v u : Value} (h : w.cell? ⟨g, k, none⟩ = some v) : (w.setCell ⟨g, k, none⟩ u).cell? ⟨g, k, none⟩ = some u := by
 exact World.cell?_setCell_same (h := h) ..
theorem cell_set_ne {w : World} {g k j : Nat} {u : Value} (hne : j ≠ k) : (w.setCell ⟨g, k, none⟩ u).cell? ⟨g, j, none⟩ = w.cell? ⟨g, j, none⟩ := by
 exact World.cell?_setCell_other (h := fun e => hne (by injection e with _ e2 _; exact e2.symm)) ..
theorem BytesAt.set {w : World} {g : Nat} {l : List UInt8} (h : BytesAt w g l) (hg : g < w.heap.size) (k : Nat) (hk : k < l.length) (u : UInt8) : BytesAt (w.setCell ⟨g, k, none⟩ (.int .u8 (u.toNat : Int))) g (l.set k u) := fun j hj => by
 rw [List.length_set] at hj
 by_cases e : j = k
 ·subst e
  rw [cell_set_same (h j hk)]
  simp
 ·rw [cell_set_ne e, h j hj]
  simp [Ne.symm e]
theorem BytesAt.snoc {w : World} {g : Nat} {l : List UInt8} (h : BytesAt w g l) (hg : g < w.heap.size) (u : UInt8) (hc : (w.cell? ⟨g, l.length, none⟩).isSome = true) : BytesAt (w.setCell ⟨g, l.length, none⟩ (.int .u8 (u.toNat : Int))) g (l ++ [u]) := fun j hj => by
 rw [List.length_append] at hj
 by_cases e : j = l.length
 ·subst e
  obtain ⟨v, hv⟩ := Option.isSome_iff_exists.1 hc
  rw [cell_set_same hv]
  simp
 ·have hjl : j < l.length := by simp at hj; omega
  rw [cell_set_ne e, h j hjl]
  simp [List.getElem_append_left hjl]
theorem SrcAt.other {w : World} {b : Nat} {cv : Value} {a sd : Int} (h : SrcAt w b cv a sd) (g k : Nat) (u : Value) (hne : g ≠ b) : SrcAt (w.setCell ⟨g, k, none⟩ u) b cv a sd := by
 unfold SrcAt at *
 rw [heap_setCell_other w ⟨g, k, none⟩ b u (fun e => hne e.symm)]
 exact h
theorem grown_late {w w3 : World} {b g : Nat} (h : w.grownBy w3 (some b)) (k : Nat) (u : Value) (hg : w.heap.size ≤ g) : w.grownBy (w3.setCell ⟨g, k, none⟩ u) (some b) :=
 ⟨h.os, h.tape, h.output, by simpa using h.size, fun i hi hne => by rw [heap_setCell_other w3 ⟨g, k, none⟩ i u (by simp; omega)]; exact h.block i hi hne⟩
theorem setCells_one (w : World) (g m : Nat) (v : Value) : w.setCells g m [v] = w.setCell ⟨g, m, none⟩ v := by simp [World.setCells]
theorem bytes_at (l : List UInt8) (j : Nat) (hj : j < l.length) : (Lib.byteCells l)[j]? = some (.int .u8 (l[j].toNat : Int)) := by
 simp [Lib.byteCells, hj]
theorem u8_of (y : Int) (h0 : 0 ≤ y) (h1 : y ≤ 255) : ∃ u : UInt8, (u.toNat : Int) = y := ⟨UInt8.ofNat y.toNat, by rw [UInt8.toNat_ofNat']; omega⟩
theorem size_mk (l : List UInt8) : (⟨l.toArray⟩ : ByteArray).size = l.length := by rw [Lib.size_eq]
theorem Tryd.info5 : (Tryd.prog.info? 5).map (fun i => (i.zero, i.size, i.bytes)) = some (some (.int .u8 0), 1, 1) := by kernel_rfl
theorem made_bytes (w : World) (t : ByteArray) (cap : Nat) (mark : Nat × Nat) (hm : mark.1 = (bytesRow t cap).size) (hc : t.size ≤ cap) (hmk : mark.2 = mark.1 + 1) :
  BytesAt (w.drew.alloc (.cells (bytesRow t cap) 5 mark)) w.heap.size t.data.toList ∧
  ∀ j, j < cap → ((w.drew.alloc (.cells (bytesRow t cap) 5 mark)).cell? ⟨w.heap.size, j, none⟩).isSome = true ∧ (w.drew.alloc (.cells (bytesRow t cap) 5 mark)).frozen? ⟨w.heap.size, j, none⟩ = false := by
 have hr : (bytesRow t cap).size = cap := by simp [bytesRow]; have : t.data.size = t.size := rfl; omega
 have hcell : ∀ j, (w.drew.alloc (.cells (bytesRow t cap) 5 mark)).cell? ⟨w.heap.size, j, none⟩ = (bytesRow t cap)[j]? := fun j => World.cell?_alloc_mark w.drew _ _ _ j
 refine ⟨fun j hj => ?_, fun j hj => ⟨?_, ?_⟩⟩
 ·rw [hcell]
  have hj2 : j < t.data.size := by simpa using hj
  have hj3 : j < t.size := hj2
  simp [bytesRow, Array.getElem?_append, hj3]
 ·rw [hcell, Array.getElem?_eq_getElem (by omega)]; rfl
 ·have hb : (w.drew.alloc (.cells (bytesRow t cap) 5 mark)).heap[w.heap.size]? = some (.cells (bytesRow t cap) 5 mark) := heap_alloc_new w.drew _
  obtain ⟨lo, hi⟩ := mark
  simp only at hm hmk
  unfold World.frozen?
  rw [hb]
  simp
  omega
set_option maxHeartbeats 4000000 in
set_option maxRecDepth 100000 in
theorem spoil_any (b : Nat) (ao : Option Addr) (n cap : Nat) (a sd : Int) (t : ByteArray) (w : World) (hn : n ≤ 1048576) (htm : t.size ≤ 65536) (ha0 : 0 ≤ a) (ha2 : a ≤ 274877906944) (hs0 : 0 ≤ sd) (hs1 : sd < 2147483648)
  (hs : SrcAt w b (.slice ao n cap) a sd) (hc : Code w b ao n) :
  Calls Tryd.prog 32 #[.pointer (some ⟨b, 0, none⟩), .string t] w fun e w' => DrawnT w b (.slice ao n cap) a 12 (t.size + 1) e w' := by
 obtain ⟨i0, hi, hz0, hz1, hz2⟩ := info_parts Tryd.info5
 have HS := hidd hs
 have HC := hidd hc
 have hb := hs.lt
 have hcv := run_bytes_of_string (P := Tryd.prog) w 9 22 5 t Tryd.underlying9 Tryd.underlying22 Tryd.underlying5
 have hcap : t.size ≤ grownCap w t.size 0 5 := grownCap_ge w t.size 0 5
 generalize grownCap w t.size 0 5 = bc at *
 have hmb := made_bytes w t bc ((bytesRow t bc).size, (bytesRow t bc).size + 1) rfl hcap rfl
 have HS0 : Hid (SrcAt (w.drew.alloc (.cells (bytesRow t bc) 5 ((bytesRow t bc).size, (bytesRow t bc).size + 1))) b (.slice ao n cap) a sd) := SrcAt.alloc (w := w.drew) hs _
 have HG0 : Hid (w.grownBy (w.drew.alloc (.cells (bytesRow t bc) 5 ((bytesRow t bc).size, (bytesRow t bc).size + 1))) (some b)) := grown_trans (grown_drewN w 1 _) (World.grownBy_alloc w.drew _ (some b))
 have hz0' : (w.drew.alloc (.cells (bytesRow t bc) 5 ((bytesRow t bc).size, (bytesRow t bc).size + 1))).heap.size = w.heap.size + 1 := by simp
 generalize w.drew.alloc (.cells (bytesRow t bc) 5 ((bytesRow t bc).size, (bytesRow t bc).size + 1)) = w0 at *
 obtain ⟨hby, hsp⟩ := hmb
 have HB0 := hidd hby
 have HP0 := hidd hsp
 have hgb : w.heap.size ≠ b := by omega
 clear hs hc hby hsp
 generalize hgw : w.heap.size = g at *
 have Hgw := hidd hgw
 clear hgw
 go_enter Tryd.func32, Tryd.ntmps32
 go_wp2_with fail
 clear hcv
 refine (next_any b ao n cap a sd 3 _ hn (by omega) (by omega) ha0 (by omega) hs0 hs1 HS0.out (HC.out.kept HG0.out)).mono ?_
 rintro e w1 ⟨x, a1, sd1, rfl, hx0, hx1, ha3, ha4, hd0, hd1, hs1', hg1⟩
 have HS1 := hidd hs1'
 have HG1 := hidd (grown_trans HG0.out hg1)
 have HB1 := hidd (HB0.out.kept hg1 hgb)
 have HP1 : Hid (∀ j, j < bc → (w1.cell? ⟨g, j, none⟩).isSome = true ∧ w1.frozen? ⟨g, j, none⟩ = false) := fun j hj => by
  have hblk : w1.heap[g]? = w0.heap[g]? := hg1.block g (by omega) (by simpa using hgb)
  have e1 : w1.cell? ⟨g, j, none⟩ = w0.cell? ⟨g, j, none⟩ := World.cell?_of_block hblk
  have e2 : w1.frozen? ⟨g, j, none⟩ = w0.frozen? ⟨g, j, none⟩ := World.frozen?_of_block hblk
  rw [e1, e2]
  exact HP0.out j hj
 have hgl : g < w1.heap.size := by have := hg1.size; omega
 clear hs1' hg1 HS0 HG0 HB0 HP0
 have hlen : t.data.toList.length = t.size := (Lib.size_eq t).symm
 generalize t.data.toList = l at *
 generalize hm : t.size = m at *
 have Hm := hidd hm
 clear hm
 by_cases hx : x = 0
 ·subst hx
  go_wp2_with fail
  refine (byte_any b ao n cap a1 sd1 _ hn (by omega) (by omega) hd0 hd1 HS1.out (HC.out.kept HG1.out)).mono ?_
  rintro e w2 ⟨y, a2, sd2, rfl, hy0, hy1, ha5, ha6, hd2, hd3, hs2, hg2⟩
  obtain ⟨u, hu⟩ := u8_of y hy0 hy1
  have HS2 := hidd hs2
  have HG2 := hidd (grown_trans HG1.out hg2)
  have HB2 := hidd (HB1.out.kept hg2 hgb)
  have HP2 : Hid (∀ j, j < bc → (w2.cell? ⟨g, j, none⟩).isSome = true ∧ w2.frozen? ⟨g, j, none⟩ = false) := fun j hj => by
   have hblk : w2.heap[g]? = w1.heap[g]? := hg2.block g hgl (by simpa using hgb)
   have e1 : w2.cell? ⟨g, j, none⟩ = w1.cell? ⟨g, j, none⟩ := World.cell?_of_block hblk
   have e2 : w2.frozen? ⟨g, j, none⟩ = w1.frozen? ⟨g, j, none⟩ := World.frozen?_of_block hblk
   rw [e1, e2]
   exact HP1.out j hj
  have hgl2 : g < w2.heap.size := by have := hg2.size; omega
  clear hs2 hg2 HS1 HG1 HB1 HP1
  subst hu
  have HA : Hid (w2.grownBy (w2.alloc (.cells #[.int .u8 (u.toNat : Int)] 5)) (some b)) := World.grownBy_alloc w2 _ (some b)
  have HBa := hidd (HB2.out.kept HA.out hgb)
  go_wp2_with (at_builtin; refine wpList_append_arg _ rfl _ _ 22 rfl 5 i0 (.int .u8 0) 1 1 Tryd.underlying22 hi hz0 hz1 hz2 rfl (by decide) g 0 m bc (Lib.byteCells l) rfl (by rw [Lib.byteCells_length]; omega) ?o1 ⟨w2.heap.size, 0, none⟩ 1 1 [.int .u8 (u.toNat : Int)] rfl rfl ?o2 ?o3 ?o4 ?o5 ?o6 ?o7 ?o8)
  case o1 =>
   intro j v hj
   have hjl : j < l.length := by have := (List.getElem?_eq_some_iff.1 hj).1; rw [Lib.byteCells_length] at this; exact this
   rw [Nat.zero_add, HBa.out j hjl]
   simp [Lib.byteCells, hjl] at hj
   rw [hj]
  case o2 =>
   intro j v hj
   match j, hj with
   | 0, hj => simp at hj; subst hj; simp [Addr.add]
  case o3 => intro v hv; simp at hv; subst hv; rfl
  case o4 =>
   intro hr j hj
   have hj0 : j = 0 := by simpa using hj
   subst hj0
   have hblk : (w2.alloc (.cells #[.int .u8 (u.toNat : Int)] 5)).heap[g]? = w2.heap[g]? := Below.heap_alloc w2 _ g hgl2
   have e1 : (w2.alloc (.cells #[.int .u8 (u.toNat : Int)] 5)).cell? ⟨g, 0 + m * 1 + 0, none⟩ = w2.cell? ⟨g, 0 + m * 1 + 0, none⟩ := World.cell?_of_block hblk
   have e2 : (w2.alloc (.cells #[.int .u8 (u.toNat : Int)] 5)).frozen? ⟨g, 0 + m * 1 + 0, none⟩ = w2.frozen? ⟨g, 0 + m * 1 + 0, none⟩ := World.frozen?_of_block hblk
   rw [e1, e2, show 0 + m * 1 + 0 = m by omega]
   exact HP2.out m (by omega)
  case o5 => unfold maxLen; omega
  case o6 => omega
  case o7 =>
   intro hr
   rw [setCells_one]
   have hblk : (w2.alloc (.cells #[.int .u8 (u.toNat : Int)] 5)).heap[g]? = w2.heap[g]? := Below.heap_alloc w2 _ g hgl2
   have hce : (w2.alloc (.cells #[.int .u8 (u.toNat : Int)] 5)).cell? ⟨g, m, none⟩ = w2.cell? ⟨g, m, none⟩ := World.cell?_of_block hblk
   have hbs := BytesAt.snoc (w := w2.alloc (.cells #[.int .u8 (u.toNat : Int)] 5)) HBa.out (by simp; omega) u (by rw [hlen, hce]; exact (HP2.out m (by omega)).1)
   rw [hlen] at hbs
   have hcv := hbs.text (m + 1) bc (by rw [List.length_append, hlen]; rfl)
   have HR := hidd (And.intro ((HS2.out.alloc (.cells #[.int .u8 (u.toNat : Int)] 5)).other g m (.int .u8 (u.toNat : Int)) hgb) (grown_late (grown_trans HG2.out HA.out) m (.int .u8 (u.toNat : Int)) (by rw [Hgw.out]; exact Nat.le_refl _)))
   clear hbs HS2 HG2 HB2 HBa HP2 HA hblk hce
   generalize (w2.alloc (.cells #[.int .u8 (u.toNat : Int)] 5)).setCell ⟨g, m, none⟩ (.int .u8 (u.toNat : Int)) = w3 at *
   go_wp2
   go_ret
   unfold DrawnT
   exact ⟨⟨(l ++ [u]).toArray⟩, a2, sd2, rfl, by rw [size_mk, List.length_append, Hm.out, hlen]; exact Nat.le_refl _, by omega, by omega, hd2, hd3, HR.out.1, HR.out.2⟩
  case o8 =>
   intro hr v' w3 hown hgw
   rcases own_cases hown with ⟨rfl, h0⟩ | ⟨g', cap', rfl, hbg, hgl'⟩
   ·omega
   ·have hbs : BytesAt w3 g' (l ++ [u]) := fun j hj => by
     rw [hown.cellAt j (by rw [List.length_append, hlen] at hj; simpa using hj)]
     have e : Lib.byteCells l ++ [Value.int .u8 (u.toNat : Int)] = Lib.byteCells (l ++ [u]) := by simp [Lib.byteCells]
     rw [e]
     exact bytes_at (l ++ [u]) j hj
    have hcv := hbs.text (m + 1) cap' (by rw [List.length_append, hlen]; rfl)
    have HR : Hid (SrcAt w3 b (.slice ao n cap) a2 sd2 ∧ w.grownBy w3 (some b)) := by
     refine ⟨?_, grown_trans (grown_trans HG2.out HA.out) ⟨hgw.os, hgw.tape, hgw.output, hgw.size, fun k hk _ => hgw.block k hk (by simp)⟩⟩
     have h := HS2.out.alloc (.cells #[.int .u8 (u.toNat : Int)] 5)
     unfold SrcAt at h ⊢
     rw [hgw.block b (Array.getElem?_eq_some_iff.1 h).1 (by simp)]
     exact h
    clear hbs hown hgw HS2 HG2 HB2 HBa HP2 HA
    go_wp2
    go_ret
    unfold DrawnT
    exact ⟨⟨(l ++ [u]).toArray⟩, a2, sd2, rfl, by rw [size_mk, List.length_append, Hm.out, hlen]; exact Nat.le_refl _, by omega, by omega, hd2, hd3, HR.out.1, HR.out.2⟩
 ·have hxz : (x == 0) = false := beq_eq_false_iff_ne.2 hx
  by_cases hx1' : x = 1
  ·subst hx1'
   by_cases hm0 : 0 < m
   ·have hmz : (0 : Int) < (m : Int) := by omega
    go_wp2_with fail
    refine (next_any b ao n cap a1 sd1 (m : Int) _ hn (by omega) (by omega) (by omega) (by omega) hd0 hd1 HS1.out (HC.out.kept HG1.out)).mono ?_
    rintro e w2 ⟨y, a2, sd2, rfl, hy0, hy1, ha5, ha6, hd2, hd3, hs2, hg2⟩
    obtain ⟨k, rfl⟩ := Int.eq_ofNat_of_zero_le hy0
    have hkm : k ≤ m := by omega
    have hkb : k ≤ bc := by omega
    have hcv := ((HB1.out.kept hg2 hgb).take k).text k bc (by rw [List.length_take]; omega)
    have HR := hidd (And.intro hs2 (grown_trans HG1.out hg2))
    have hsz2 : (l.take k).length ≤ m + 1 := by rw [List.length_take]; omega
    clear hs2 hg2 HS1 HG1 HB1 HP1
    go_wp2
    go_ret
    unfold DrawnT
    exact ⟨⟨(l.take k).toArray⟩, a2, sd2, rfl, by rw [size_mk, Hm.out]; exact hsz2, by omega, by omega, hd2, hd3, HR.out.1, HR.out.2⟩
   ·have hmz : ¬ (0 : Int) < (m : Int) := by omega
    have hcv := HB1.out.text m bc hlen
    go_wp2
    go_ret
    unfold DrawnT
    exact ⟨⟨l.toArray⟩, a1, sd1, rfl, by rw [size_mk, Hm.out]; omega, by omega, by omega, hd0, hd1, HS1.out, HG1.out⟩
  ·have hxz1 : (x == 1) = false := beq_eq_false_iff_ne.2 hx1'
   by_cases hm0 : 0 < m
   ·have hmz : (0 : Int) < (m : Int) := by omega
    go_wp2_with fail
    refine (next_any b ao n cap a1 sd1 (m : Int) _ hn (by omega) (by omega) (by omega) (by omega) hd0 hd1 HS1.out (HC.out.kept HG1.out)).mono ?_
    rintro e w2 ⟨y, a2, sd2, rfl, hy0, hy1, ha5, ha6, hd2, hd3, hs2, hg2⟩
    obtain ⟨k, rfl⟩ := Int.eq_ofNat_of_zero_le hy0
    have HS2 := hidd hs2
    have HG2 := hidd (grown_trans HG1.out hg2)
    have HB2 := hidd (HB1.out.kept hg2 hgb)
    have HP2 : Hid (w2.frozen? ⟨g, k, none⟩ = false) := by
     have hblk : w2.heap[g]? = w1.heap[g]? := hg2.block g hgl (by simpa using hgb)
     show _ = _
     rw [show w2.frozen? ⟨g, k, none⟩ = w1.frozen? ⟨g, k, none⟩ from World.frozen?_of_block hblk]
     exact (HP1.out k (by omega)).2
    have hgl2 : g < w2.heap.size := by have := hg2.size; omega
    clear hs2 hg2 HS1 HG1 HB1 HP1
    go_wp2_with fail
    refine (byte_any b ao n cap a2 sd2 _ hn (by omega) (by omega) hd2 hd3 HS2.out (HC.out.kept HG2.out)).mono ?_
    rintro e w3 ⟨z, a3, sd3, rfl, hz0', hz1', ha7, ha8, hd4, hd5, hs3, hg3⟩
    obtain ⟨u, hu⟩ := u8_of z hz0' hz1'
    have HS3 := hidd hs3
    have HG3 := hidd (grown_trans HG2.out hg3)
    have HB3 := hidd (HB2.out.kept hg3 hgb)
    have hkm : k < m := by omega
    have hkl : k < l.length := by omega
    have q1 : w3.cell? ⟨g, k, none⟩ = some (.int .u8 (l[k].toNat : Int)) := HB3.out k hkl
    have q2 : w3.frozen? ⟨g, k, none⟩ = false := by
     have hblk : w3.heap[g]? = w2.heap[g]? := hg3.block g hgl2 (by simpa using hgb)
     rw [show w3.frozen? ⟨g, k, none⟩ = w2.frozen? ⟨g, k, none⟩ from World.frozen?_of_block hblk]
     exact HP2.out
    have hgl3 : g < w3.heap.size := by have := hg3.size; omega
    clear hs3 hg3 HS2 HG2 HB2 HP2
    subst hu
    have hkz : (k : Int) < (m : Int) := by omega
    have hbs := BytesAt.set HB3.out hgl3 k hkl u
    have hcv := hbs.text m bc (by rw [List.length_set]; exact hlen)
    have HR := hidd (And.intro (HS3.out.other g k (.int .u8 (u.toNat : Int)) hgb) (grown_late HG3.out k (.int .u8 (u.toNat : Int)) (by rw [Hgw.out]; exact Nat.le_refl _)))
    clear hbs HS3 HG3 HB3
    go_wp2
    go_ret
    unfold DrawnT
    exact ⟨⟨(l.set k u).toArray⟩, a3, sd3, rfl, by rw [size_mk, List.length_set, Hm.out]; omega, by omega, by omega, hd4, hd5, HR.out.1, HR.out.2⟩
   ·have hmz : ¬ (0 : Int) < (m : Int) := by omega
    have hcv := HB1.out.text m bc hlen
    go_wp2
    go_ret
    unfold DrawnT
    exact ⟨⟨l.toArray⟩, a1, sd1, rfl, by rw [size_mk, Hm.out]; omega, by omega, by omega, hd0, hd1, HS1.out, HG1.out⟩
end Go.Proofs.YtoinajfliogcdaaDoor

namespace Go.Proofs.YtoinajfliogcdaaDoor
open Go Go.RowKit
set_option linter.unusedVariables false

set_option maxHeartbeats 1000000 in
theorem repeat_any (t : ByteArray) (N : Nat) (w : World) (ht : t.size ≤ 16) (hN : N ≤ 100000) :
  Calls Tryd.prog 33 #[.string t, .int .i64 (N : Int)] w fun e w' => ∃ r : ByteArray, e = .returned (.string r) ∧ r.size ≤ t.size * N ∧ Below w.heap.size w w' := by
 obtain ⟨i0, hi, hz0, hz1, hz2⟩ := info_parts Tryd.info5
 go_enter Tryd.func33, Tryd.ntmps33
 go_wp2
 go_loopw [5, 6] (fun v i wr => ∃ (k : Nat) (L : List UInt8), k ≤ N ∧ i = .int .i64 (k : Int) ∧ L.length ≤ t.size * k ∧ wr.ownsRow w.heap.size 5 1 v L.length (Lib.byteCells L) ∧ Below w.heap.size w wr ∧ v ≠ .slice none 0 0) (fun _ i _ => N - (intOf i).toNat)
 case atStart => exact ⟨0, [], Nat.zero_le _, rfl, by simp, own_empty w _, (Below.refl _ _).alloc (Nat.le_refl _) _, by simp⟩
 case round =>
  obtain ⟨k, L, hk, rfl, hL, hown, hbel, hnn⟩ := hrel
  have hL2 : L.length ≤ 16 * k := Nat.le_trans hL (Nat.mul_le_mul_right k ht)
  have HL := hidd hL
  clear hL
  have HO := hidd hown
  have HB := hidd hbel
  have hzr := hbel.size
  by_cases hlt : k < N
  ·clear hown hbel
   go_wp2_with (at_builtin; refine Lib.wpList_append_own_string _ rfl _ _ 22 9 rfl w.heap.size 5 i0 Tryd.underlying22 Tryd.underlying9 hi hz0 hz1 hz2 _ _ _ rfl HO.out t rfl ?c1 ?c2 hzr ?_)
   case c1 => unfold maxLen; omega
   case c2 => omega
   intro v' w2 hown' hgrow hne
   have R : Hid (w2.ownsRow w.heap.size 5 1 v' (L ++ t.data.toList).length (Lib.byteCells (L ++ t.data.toList)) ∧ Below w.heap.size w w2) := by
    refine ⟨?_, HB.out.grown hgrow hzr (own_block HO.out)⟩
    rw [List.length_append, ← Lib.size_eq, Lib.byteCells_append]
    exact hown'
   have hne' : Hid (v' ≠ .slice none 0 0) := hne
   clear hown' hgrow hne
   go_wp2
   go_roundw
   case rel => exact ⟨k + 1, L ++ t.data.toList, by omega, by go_num, by rw [List.length_append, ← Lib.size_eq, Nat.mul_succ]; exact Nat.add_le_add_right HL.out _, R.out.1, R.out.2, hne'.out⟩
   case measure => simp [intOf]; omega
  ·rcases own_cases hown with ⟨rfl, h0⟩ | ⟨g, cap, rfl, hbg, hgl⟩
   ·exact absurd rfl hnn
   ·have hbs : BytesAt wr g L := fun j hj => by rw [hown.cellAt j (by omega)]; exact bytes_at L j hj
    have hcv := hbs.text L.length cap rfl
    clear hbs hown hbel
    go_wp2
    go_ret
    exact ⟨⟨L.toArray⟩, rfl, by rw [size_mk]; exact Nat.le_trans HL.out (Nat.mul_le_mul_left _ hk), HB.out⟩
set_option maxHeartbeats 1000000 in
theorem source_any (ao : Option Addr) (n cap : Nat) (w : World) (hn : n ≤ 1048576) :
  Calls Tryd.prog 29 #[.slice ao n cap] w fun e w' => e = .returned (.pointer (some ⟨w.heap.size, 0, none⟩)) ∧ SrcAt w' w.heap.size (.slice ao n cap) 0 ((n : Int) % 1000) ∧ w.grownBy w' none := by
 go_enter Tryd.func29, Tryd.ntmps29
 go_wp2
 go_ret
 exact ⟨rfl, heap_alloc_new w _, World.grownBy_alloc w _ none⟩
def CodeIn (w : World) (ao : Option Addr) (n : Nat) : Prop := ∀ j, j < n → ∃ blk off z, ao = some ⟨blk, off, none⟩ ∧ blk < w.heap.size ∧ 0 ≤ z ∧ z ≤ 255 ∧ w.cell? ⟨blk, off + j, none⟩ = some (.int .u8 z)
theorem CodeIn.code {w w' : World} {ao : Option Addr} {n : Nat} (h : CodeIn w ao n) (hg : w.grownBy w' none) : Code w' w.heap.size ao n := fun j hj => by
 obtain ⟨blk, off, z, h1, h2, h3, h4, h5⟩ := h j hj
 exact ⟨blk, off, z, h1, by omega, h3, h4, hg.cell h5 (by simp)⟩
theorem CodeIn.below {w w' : World} {ao : Option Addr} {n : Nat} (h : CodeIn w ao n) (hb : Below w.heap.size w w') : CodeIn w' ao n := fun j hj => by
 obtain ⟨blk, off, z, h1, h2, h3, h4, h5⟩ := h j hj
 exact ⟨blk, off, z, h1, Nat.lt_of_lt_of_le h2 hb.size, h3, h4, by rw [hb.cell (p := ⟨blk, off + j, none⟩) h2]; exact h5⟩
theorem below_src {w w1 w2 : World} (h : w.grownBy w1 none) (k : w1.grownBy w2 (some w.heap.size)) : Below w.heap.size w w2 :=
 ⟨k.os.trans h.os, k.tape.trans h.tape, k.output.trans h.output, Nat.le_trans h.size k.size, fun i hi => by rw [k.block i (Nat.lt_of_lt_of_le hi h.size) (by simp; omega), h.block i hi (by simp)]⟩
end Go.Proofs.YtoinajfliogcdaaDoor

namespace Go.Proofs.YtoinajfliogcdaaDoor
open Go Go.RowKit
set_option linter.unusedVariables false

set_option maxHeartbeats 2000000 in
set_option maxRecDepth 100000 in
theorem lawAt_any (ao : Option Addr) (n cap i m : Nat) (w : World) (hn : n ≤ 1048576) (hi : i ≤ 1048576) (hm : 1 < m) (hm2 : m ≤ 1048576) (hc : CodeIn w ao n) :
  Calls Tryd.prog 11 #[.slice ao n cap, .int .i64 (i : Int), .int .i64 (m : Int)] w fun e w' => ∃ x : Nat, e = .returned (.int .i64 (x : Int)) ∧ x < m ∧ w.grownBy w' none := by
 have hmz : ¬ (m : Int) ≤ 1 := by omega
 have hm0 : (m : Int) ≠ 0 := by omega
 by_cases h0 : n = 0
 ·subst h0
  go_enter Tryd.func11, Tryd.ntmps11
  go_wp2
  go_ret
  refine ⟨i * 7 % m, ?_, Nat.mod_lt _ (by omega), grown_drewN w 0 none⟩
  show Ending.returned (.int .i64 ((i : Int) * 7 % (m : Int))) = _
  rw [Int.natCast_emod]
  rfl
 ·have hn0 : (n : Int) ≠ 0 := by omega
  obtain ⟨A, hA⟩ : ∃ A : Nat, (i : Int) % (n : Int) = (A : Int) := ⟨i % n, by rw [Int.natCast_emod]⟩
  obtain ⟨B, hB⟩ : ∃ B : Nat, ((i : Int) + 1) % (n : Int) = (B : Int) := ⟨(i + 1) % n, by rw [Int.natCast_emod]; rfl⟩
  obtain ⟨D, hD⟩ : ∃ D : Nat, (i : Int) / (n : Int) = (D : Int) := ⟨i / n, by rw [Int.natCast_ediv]⟩
  have hAn : A < n := by have := Int.emod_lt_of_pos (i : Int) (by omega : (0 : Int) < (n : Int)); omega
  have hBn : B < n := by have := Int.emod_lt_of_pos ((i : Int) + 1) (by omega : (0 : Int) < (n : Int)); omega
  have hDi : D ≤ i := by
   have h1 : i / n ≤ i := Nat.div_le_self _ _
   have h2 : ((i / n : Nat) : Int) = (D : Int) := by rw [Int.natCast_ediv]; exact hD
   omega
  obtain ⟨blk, off, z, rfl, _, hz0, hz1, hzc⟩ := hc A hAn
  obtain ⟨blk', off', y, he, _, hy0, hy1, hyc⟩ := hc B hBn
  obtain ⟨rfl, rfl⟩ : blk = blk' ∧ off = off' := by simpa using he
  have hmod : ∃ x : Nat, (z * 31 + y + (D : Int)) % (m : Int) = (x : Int) ∧ x < m := by
   have h1 := Int.emod_nonneg (z * 31 + y + (D : Int)) hm0
   have h2 := Int.emod_lt_of_pos (z * 31 + y + (D : Int)) (by omega : (0 : Int) < (m : Int))
   exact ⟨((z * 31 + y + (D : Int)) % (m : Int)).toNat, by omega, by omega⟩
  obtain ⟨x, hx, hxm⟩ := hmod
  have hAz : (A : Int) < (n : Int) := by omega
  have hBz : (B : Int) < (n : Int) := by omega
  clear hc he
  go_enter Tryd.func11, Tryd.ntmps11
  go_wp2
  go_quiet (fail)
  go_wp2
  go_ret
  refine ⟨x, ?_, hxm, grown_drewN _ _ _⟩
  show Ending.returned (.int .i64 ((z * 31 + y + (D : Int)) % (m : Int))) = _
  rw [hx]
end Go.Proofs.YtoinajfliogcdaaDoor

namespace Go.Proofs.YtoinajfliogcdaaDoor
open Go Go.RowKit
set_option linter.unusedVariables false
set_option maxRecDepth 100000

theorem blkc {w : World} {b : Nat} {cs : Array Value} {t : TypeId} (h : w.heap[b]? = some (.cells cs t)) (k : Nat) : w.cell? ⟨b, k, none⟩ = cs[k]? := by
 simp [World.cell?, h]
theorem blko {w w' : World} {b : Nat} {o : Obj} (h : w.heap[b]? = some o) (hb : Below w.heap.size w w') : w'.heap[b]? = some o := (hb.block b (Array.getElem?_eq_some_iff.1 h).1).trans h
theorem blkf {w : World} {b : Nat} {cs : Array Value} {t : TypeId} (h : w.heap[b]? = some (.cells cs t)) (k : Nat) : w.frozen? ⟨b, k, none⟩ = false := by
 simp [World.frozen?, h]
theorem box_two (w : World) (o1 o2 : Obj) : ((w.alloc o1).alloc o2).heap[w.heap.size]? = some o1 ∧ ((w.alloc o1).alloc o2).heap[w.heap.size + 1]? = some o2 := by
 refine ⟨?_, ?_⟩
 ·rw [Below.heap_alloc _ _ _ (by simp)]; exact heap_alloc_new _ _
 ·have := heap_alloc_new (w.alloc o1) o2
  rw [World.size_alloc] at this
  exact this
theorem heap_set_other (w : World) (b k : Nat) (u : Value) (x : Nat) (hx : x ≠ b) : (w.setCell ⟨b, k, none⟩ u).heap[x]? = w.heap[x]? := heap_setCell_other w ⟨b, k, none⟩ x u hx
theorem blk_setk {w : World} {b : Nat} {cs : Array Value} {t : TypeId} (h : w.heap[b]? = some (.cells cs t)) (k : Nat) (u : Value) : (w.setCell ⟨b, k, none⟩ u).heap[b]? = some (.cells (cs.setIfInBounds k u) t) := by
 obtain ⟨hlt, hk⟩ := Array.getElem?_eq_some_iff.1 h
 show (w.heap.modify b _)[b]? = _
 rw [Array.getElem?_eq_getElem (by rw [Array.size_modify]; exact hlt), Array.getElem_modify_self, hk]
 rfl
theorem blk_ne {w : World} {a b : Nat} {c1 c2 : Array Value} {t1 t2 : TypeId} (h1 : w.heap[a]? = some (Obj.cells c1 t1)) (h2 : w.heap[b]? = some (Obj.cells c2 t2)) (hne : t1 ≠ t2) : a ≠ b := by
 rintro rfl
 rw [h1] at h2
 simp only [Option.some.injEq, Obj.cells.injEq] at h2
 exact hne h2.2.1
theorem own_congr {w w' : World} {base e size n : Nat} {v : Value} {xs : List Value} (h : w.ownsRow base e size v n xs) (hb : ∀ b, v.ownBlock = some b → w'.heap[b]? = w.heap[b]?) : w'.ownsRow base e size v n xs := by
 refine ⟨h.1, ?_⟩
 rcases h.2 with h' | ⟨g, cap, cur, rfl, h2, h3, h4⟩
 ·exact Or.inl h'
 ·exact Or.inr ⟨g, cap, cur, rfl, h2, by rw [hb g rfl]; exact h3, h4⟩
theorem own_blk {w : World} {base e size n : Nat} {v : Value} {xs : List Value} (h : w.ownsRow base e size v n xs) {b : Nat} (hb : v.ownBlock = some b) : base ≤ b ∧ ∃ cur, w.heap[b]? = some (.cells cur e) := by
 rcases h.2 with ⟨h', _⟩ | ⟨g, cap, cur, rfl, h2, h3, _⟩
 ·rw [h'] at hb; cases hb
 ·cases hb; exact ⟨h2, cur, h3⟩
end Go.Proofs.YtoinajfliogcdaaDoor
