import Derived.Test.YtoinajfliogcdaaDoorNearJ43
import Derived.Test.YtoinajfliogcdaaDoorNearJ39
import Derived.Test.YtoinajfliogcdaaDoorNearJ44
import Derived.Test.YtoinajfliogcdaaDoorNearJ21
import Derived.Test.YtoinajfliogcdaaDoorNearJ02
import Derived.Deep.DeepCutAuto
namespace Go.Proofs.YtoinajfliogcdaaDoor
open Go Go.RowKit
set_option linter.unusedVariables false
set_option maxRecDepth 100000
set_option linter.unusedSimpArgs false

def FzPost (word : List Int) (k head : Int) (w : World) (e : Ending) (w' : World) : Prop :=
 ∃ ls L, RiseZ ls ∧ (∀ y, y ∈ ls ↔ y ∈ word) ∧ sysL.Least ls.length ls ((fzK word ls k head).lang (ls.length + 1) (firstS word.length k)) L ∧ Below w.heap.size w w' ∧
  ((256 < L.length ∧ e = .returned (.tuple #[.agg #[.slice none 0 0], .int .i64 11])) ∨ (L.length ≤ 256 ∧ ∃ v l, l.map Prod.snd = L ∧ e = .returned (.tuple #[.agg #[v], .int .i64 0]) ∧ DfaM w' w.heap.size v l))
theorem hold_take {W : World} {base : Nat} {R : RowMap} (h : RowsF W base R) {a g n c : Nat} {x : List Int} (ha : R a = some (.slice (some ⟨g, 0, none⟩) (n + 1) c, x)) (hx : x.length = n + 1) : HoldI W (.slice (some ⟨g, 0, none⟩) n c) (x.take n) := by
 have ho := h.own _ _ _ ha
 rw [hx] at ho
 refine ⟨_, c, by rw [List.length_take, hx]; congr 1; omega, Or.inr ⟨g, 0, rfl, ?_, fun t ht => ?_⟩⟩
 ·obtain ⟨_, c2, h2⟩ := own_blk ho (b := g) rfl
  exact (Array.getElem?_eq_some_iff.1 h2).1
 ·rw [List.length_take, hx] at ht
  rw [Nat.zero_add, ho.cellAt t (by omega)]
  have e : (x.take n).getD t 0 = x.getD t 0 := by rw [List.getD_eq_getElem?_getD, List.getD_eq_getElem?_getD, List.getElem?_take_of_lt (by omega)]
  rw [e]
  simp [zI, show t < x.length by omega]
theorem fOf_take {x : List Int} {n i : Nat} (h : i < n) : fOf (x.take n) i = fOf x i := by
 unfold fOf
 rw [List.getD_eq_getElem?_getD, List.getD_eq_getElem?_getD, List.getElem?_take_of_lt h]
theorem nextF_congr {hit : Nat → Bool} {k : Int} {f g : Nat → Int} : ∀ i, (∀ j, j ≤ i → f j = g j) → nextF hit k f i = nextF hit k g i
 | 0, h => by simp only [nextF]; rw [h 0 (by omega)]
 | i + 1, h => by simp only [nextF]; rw [nextF_congr i (fun j hj => h j (by omega)), h i (by omega), h (i + 1) (by omega)]
theorem step_zI {len : Nat} {k head : Int} {hit : Nat → Bool} {x : List Int} : zI (stepS len k head hit x) = zI (upN (len + 1) (nextF hit k (fOf (x.take (len + 1))))) ++ [.int .i64 (cameN head (fOf x (len + 1)) hit)] := by
 unfold stepS
 rw [zI_snoc]
 congr 2
 refine List.map_congr_left fun i hi => ?_
 have := List.mem_range.1 hi
 exact nextF_congr i (fun j hj => (fOf_take (by omega)).symm)
theorem Tryd.infoBoL : (Tryd.prog.info? 4).map (fun i => (i.zero, i.size, i.bytes)) = some (some (.bool false), 1, 1) := by kernel_rfl
theorem exec_loadBs (W : World) (ρ : Operand → Value) (o : Oper) (x : Operand) (ho : o.op = .load 59 x) (b off : Nat) (v : Value) (hx : ρ x = .pointer (some ⟨b, off, none⟩)) (h0 : W.cell? ⟨b, off, none⟩ = some v) : (execOp ρ o).run Tryd.prog W = .ok (.value v) W := by
 unfold execOp
 simp only [ho, Instr.loadAt, Instr.sureAddr, hx, Sem.run_bind, Sem.run_pure, Result.andThen_ok]
 go_simp
theorem exec_boxBs (W : World) (ρ : Operand → Value) (o : Oper) (x : Operand) (ho : o.op = .buildSlice 59 1 #[(0, x)]) (f : Bool) (hx : ρ x = .bool f) :
  (execOp ρ o).run Tryd.prog W = .ok (.value (.slice (some ⟨W.heap.size, 0, none⟩) 1 1)) (W.alloc (.cells #[.bool f] 4)) := by
 unfold execOp
 simp only [ho, hx, Sem.run_bind, Sem.run_pure, Result.andThen_ok]
 go_simp
theorem exec_storeBs (W : World) (ρ : Operand → Value) (o : Oper) (x y : Operand) (ho : o.op = .store 59 x y) (b off : Nat) (a : Option Addr) (n c : Nat) (u : Value) (hx : ρ x = .pointer (some ⟨b, off, none⟩)) (hy : ρ y = .slice a n c) (h0 : W.cell? ⟨b, off, none⟩ = some u) (hf : W.frozen? ⟨b, off, none⟩ = false) : (execOp ρ o).run Tryd.prog W = .ok .skip (W.setCell ⟨b, off, none⟩ (.slice a n c)) := by
 unfold execOp
 simp only [ho, hx, hy, Sem.run_bind, Sem.run_pure, Result.andThen_ok]
 go_simp
theorem Fz2.rowAt {w0 W : World} {tb rb : Nat} {vl vf vn vw : Value} {word ls : List Int} {Z : List (List Int)} {us : List Value} {nxt : List (List Nat)} {ns : List Value} {fins : List Bool} {R : RowMap} {g c : Nat} (h : Fz2 w0 W tb rb vl vf vn vw (.slice (some ⟨g, 0, none⟩) Z.length c) word ls Z us nxt ns fins R) {t n : Nat} (ht : t < Z.length) (hn : (Z.getD t []).length = n + 1) : ∃ gq cq, W.cell? ⟨g, t, none⟩ = some (.slice (some ⟨gq, 0, none⟩) (n + 1) cq) ∧ HoldI W (.slice (some ⟨gq, 0, none⟩) (n + 1) cq) (Z.getD t []) := by
 have hus : us.length = Z.length := by have := h.outer.1; omega
 have hu : us[t]? = some (us[t]'(by omega)) := List.getElem?_eq_getElem (by omega)
 have hz : Z[t]? = some (Z.getD t []) := by rw [List.getD_eq_getElem?_getD, List.getElem?_eq_getElem ht]; rfl
 have hr := h.row t _ _ hu hz
 have ho := h.rows.own _ _ _ hr
 have hc : W.cell? ⟨g, t, none⟩ = some (us[t]'(by omega)) := by rw [h.outer.cellAt t (by omega)]; exact hu
 rcases own_cases ho with ⟨_, h0⟩ | ⟨gq, cq, e, _, _⟩
 ·omega
 ·rw [e, hn] at hc
  have hh := h.rows.hold hr
  rw [e, hn] at hh
  exact ⟨gq, cq, hc, hh⟩
set_option maxHeartbeats 4000000 in
theorem fuzzy_good (hC : LeastC) (s : ByteArray) (k head : Int) (w : World) (hs : s.size ≤ 1048576) (hD : decCode s = 0) (hl : (decList s).length ≤ 30) (hk : 0 ≤ k ∧ k ≤ 2) (hh : 0 ≤ head ∧ head ≤ (decList s).length) :
  Calls Tryd.prog 8 #[.string s, .int .i64 k, .int .i64 head] w (FzPost (decList s) k head w) := by
 obtain ⟨i0, hi, hz0, hz1, hz2⟩ := info_parts Tryd.infoIntL
 obtain ⟨is, his, hs0, hs1, hs2⟩ := info_parts Tryd.infoSlI
 have HDc := hidd hD
 clear hD
 go_enter Tryd.func8, Tryd.ntmps8
 go_wp2_with fail
 refine (specDecode_any s _ hs).mono ?_
 rintro e w2 ⟨vw, rfl, hown, hb2⟩
 rw [HDc.out]
 clear HDc
 generalize decList s = word at *
 have hbw : Below w.heap.size w w2 := ((Below.refl _ _).alloc (Nat.le_refl _) _).trans (hb2.mono (by simp))
 have HBw := hidd hbw
 have hres : w2.heap[w.heap.size]? = some (.cells #[.slice none 0 0] 27) := blko (heap_alloc_new _ _) hb2
 have HRes := hidd hres
 have HOw : Hid (w2.ownsRow w.heap.size 3 1 vw word.length (zI word)) := hown.mono (by simp)
 have hsz2 := hbw.size
 have hlt2 : w.heap.size < w2.heap.size := (Array.getElem?_eq_some_iff.1 hres).1
 clear hown hb2 hbw hres
 obtain ⟨aw, cw, hvw⟩ : ∃ a c, vw = .slice a word.length c := by
  rcases own_cases HOw.out with ⟨h, h0⟩ | ⟨g, c, h, _, _⟩
  ·exact ⟨none, 0, by rw [h, h0]⟩
  ·exact ⟨_, c, h⟩
 subst hvw
 have hz30 : ¬ (30 : Int) < (word.length : Int) := by omega
 have hzk0 : ¬ k < 0 := by omega
 have hzk2 : ¬ (2 : Int) < k := by omega
 have hzh0 : ¬ head < 0 := by omega
 have hzh1 : ¬ (word.length : Int) < head := by omega
 go_wp2_with fail
 refine (letters_any word _ _ (by omega) (HoldI.own HOw.out)).mono ?_
 rintro e w3 ⟨vl, ls, rfl, hrise, hmem, hlsl, hownl, hb3⟩
 have HRi := hidd hrise
 have HMe := hidd hmem
 obtain ⟨al, cl, hvl⟩ : ∃ a c, vl = .slice a ls.length c := by
  rcases own_cases hownl with ⟨h, h0⟩ | ⟨g, c, h, _, _⟩
  ·exact ⟨none, 0, by rw [h, h0]⟩
  ·exact ⟨_, c, h⟩
 subst hvl
 clear hrise hmem
 go_upto_region 7 with fail
 have hb34 : Below w3.heap.size w3 (w3.alloc (.cells #[.slice al ls.length cl, .slice none 0 0, .slice none 0 0] 62)) := (Below.refl _ _).alloc (Nat.le_refl _) _
 have HRow : Hid (RowsF (w3.alloc (.cells #[.slice al ls.length cl, .slice none 0 0, .slice none 0 0] 62)) w.heap.size (upd (upd (fun _ => none) 1 (some (.slice aw word.length cw, word))) 0 (some (.slice al ls.length cl, ls)))) := ((((RowsF.empty w w.heap.size).new HBw.out (Nat.le_refl _) HOw.out).new hb3 hsz2 hownl).below hb34)
 have HRaw : Hid ((w3.alloc (.cells #[.slice al ls.length cl, .slice none 0 0, .slice none 0 0] 62)).heap[w3.heap.size]? = some (.cells #[.slice al ls.length cl, .slice none 0 0, .slice none 0 0] 62)) := heap_alloc_new _ _
 have HRes4 := hidd (blko (blko HRes.out hb3) hb34)
 have HB4 := hidd ((HBw.out.trans (hb3.mono hsz2)).trans (hb34.mono (Nat.le_trans hsz2 hb3.size)))
 have hrb : w.heap.size ≤ w3.heap.size := Nat.le_trans hsz2 hb3.size
 have hsz4 := HB4.out.size
 clear HRes HBw HOw hownl hb3 hb34 hsz2 hlt2
 generalize w3.alloc (.cells #[.slice al ls.length cl, .slice none 0 0, .slice none 0 0] 62) = w4 at *
 generalize w3.heap.size = rb at *
 clear hz30 hzk0 hzk2 hzh0 hzh1
 go_wp2
 have HO0 := hidd (own_empty w4 3)
 have HB5 : Hid (Below w4.heap.size w4 (w4.alloc (.cells #[] 3))) := (Below.refl _ _).alloc (Nat.le_refl _) _
 generalize w4.alloc (.cells #[] 3) = w5 at *
 obtain ⟨fs, hfs⟩ : ∃ fs : Nat → Int, fs = fun (i : Nat) => min (i : Int) (k + 1) := ⟨_, rfl⟩
 have HFs := hidd hfs
 clear hfs
 go_loopw [11, 12] (fun fv iv wx => ∃ j : Nat, j ≤ word.length + 1 ∧ iv = .int .i64 (j : Int) ∧ wx.ownsRow w4.heap.size 3 1 fv j (zI (upN j fs)) ∧ Below w4.heap.size w4 wx) (fun _ iv _ => word.length + 1 - (intOf iv).toNat)
 case atStart => exact ⟨0, by omega, rfl, HO0.out, HB5.out⟩
 case round =>
  clear HO0 HB5
  obtain ⟨j, hj, rfl, hown, hbel⟩ := hrel
  have HO := hidd hown
  have HBe := hidd hbel
  have hzx := hbel.size
  clear hown hbel
  by_cases hjl : j ≤ word.length
  ·have hjz : (j : Int) ≤ (word.length : Int) := by omega
   obtain ⟨k1, hk1⟩ : ∃ k1, k + 1 = k1 := ⟨_, rfl⟩
   have hmn := min2_eq (j : Int) k1 (fs j) (by rw [HFs.out, ← hk1])
   have Hmi : Hid (min (j : Int) k1 = fs j) := by show _ = _; rw [HFs.out, ← hk1]
   have Hrow := hidd (upN_succ j fs)
   have hfb : 0 ≤ fs j ∧ fs j ≤ 3 := by rw [HFs.out]; show 0 ≤ min (j : Int) (k + 1) ∧ min (j : Int) (k + 1) ≤ 3; omega
   generalize fs j = d at *
   go_wp2_with (at_builtin; refine wp_push rfl _ _ 30 3 rfl i0 (.int .i64 0) 8 Tryd.underlying30 hi hz0 hz1 hz2 rfl w4.heap.size _ _ _ rfl HO.out _ rfl rfl (by omega) (by decide) hzx ?_)
   intro v' w' hown' hbut' hat' hne'
   have HO2 : Hid (w'.ownsRow w4.heap.size 3 1 v' (j + 1) (zI (upN (j + 1) fs))) := by show World.ownsRow _ _ _ _ _ _ _; rw [Hrow.out, zI_snoc]; first | exact hown' | (rw [← Hmi.out]; exact hown')
   have HB2 := hidd (HBe.out.trans (hbut'.below hzx (fun x hx e => by have := (own_blk HO.out e).1; omega)))
   clear hown' hbut' hat' hne' hmn
   go_wp2
   go_roundw
   case rel => exact ⟨j + 1, by omega, by go_num, HO2.out, HB2.out⟩
   case measure => simp [intOf]; omega
  ·have hjz : ¬ (j : Int) ≤ (word.length : Int) := by omega
   obtain rfl : j = word.length + 1 := by omega
   go_upto_region 13 with (at_builtin; refine wp_push rfl _ _ 30 3 rfl i0 (.int .i64 0) 8 Tryd.underlying30 hi hz0 hz1 hz2 rfl w4.heap.size _ _ _ rfl HO.out _ rfl rfl (by omega) (by decide) hzx ?_)
   intro v' w' hown' hbut' hat' hne'
   have hb46 := HBe.out.trans (hbut'.below hzx (fun x hx e => by have := (own_blk HO.out e).1; omega))
   obtain ⟨x0, hx0⟩ : ∃ x0, firstS word.length k = x0 := ⟨_, rfl⟩
   have hxl : x0.length = word.length + 2 := by rw [← hx0]; simp [firstS, rowL]
   have HOx : Hid (w'.ownsRow w4.heap.size 3 1 v' x0.length (zI x0)) := by
    show World.ownsRow _ _ _ _ _ _ _
    rw [hxl]
    have e : zI x0 = zI (upN (word.length + 1) fs) ++ [.int .i64 0] := by rw [← hx0, HFs.out]; simp [firstS, rowL, upN, zI]
    rw [e]; exact hown'
   have HB46 := hidd hb46
   have Hx0 := hidd hx0
   have Hxl := hidd hxl
   clear hown' hbut' hat' HO HBe hb46 hx0 hxl HFs
   obtain ⟨gx, cx, hvx⟩ : ∃ g c, v' = .slice (some ⟨g, 0, none⟩) (word.length + 2) c := by
    rcases own_cases HOx.out with ⟨h, h0⟩ | ⟨g, c, h, _, _⟩
    ·exact absurd h hne'
    ·exact ⟨g, c, by rw [← Hxl.out]; exact h⟩
   subst hvx
   clear hne'
   have hb67 : Below w'.heap.size w' (w'.alloc (.cells #[.slice (some ⟨gx, 0, none⟩) (word.length + 2) cx] 30)) := (Below.refl _ _).alloc (Nat.le_refl _) _
   have hz47 := HB46.out.size
   have HB47 := hidd (HB46.out.trans (hb67.mono hz47))
   obtain ⟨R, hR⟩ : ∃ R : RowMap, R = upd (upd (upd (fun _ => none) 1 (some (.slice aw word.length cw, word))) 0 (some (.slice al ls.length cl, ls))) 4 (some (.slice (some ⟨gx, 0, none⟩) (word.length + 2) cx, x0)) := ⟨_, rfl⟩
   have HFz : Hid (Fz2 w (w'.alloc (.cells #[.slice (some ⟨gx, 0, none⟩) (word.length + 2) cx] 30)) w.heap.size rb (.slice al ls.length cl) (.slice none 0 0) (.slice none 0 0) (.slice aw word.length cw) (.slice (some ⟨w'.heap.size, 0, none⟩) 1 1) word ls [x0] [.slice (some ⟨gx, 0, none⟩) (word.length + 2) cx] [] [] [] R) := by
    refine ⟨HB4.out.trans (HB47.out.mono hsz4), ⟨Nat.le_refl _, hrb⟩, blko HRes4.out HB47.out, blko HRaw.out HB47.out, ?_, ?_, ?_, ?_, ?_, World.ownsRow_nil _ _ _ _, ?_, ?_, World.ownsRow_nil _ _ _ _⟩
    ·rw [hR]
     refine HRow.out.new HB47.out hsz4 ?_
     exact own_below HOx.out hb67
    ·rw [hR]; rfl
    ·rw [hR]; rfl
    ·have := World.ownsRow_lit (base := w.heap.size) (e := 30) (size := 1) w' #[.slice (some ⟨gx, 0, none⟩) (word.length + 2) cx] 1 (Nat.le_trans hsz4 hz47) (by unfold maxLen; omega) (by simp)
     simpa using this
    ·intro j u z h1 h2
     match j, h1, h2 with
     | 0, h1, h2 =>
      simp at h1 h2
      subst h1 h2
      rw [hR]; rfl
     | j + 1, h1, h2 => simp at h1
    ·intro j u z h1 h2; simp at h1
    ·intro b hb e
     cases e
   clear HB4 HRes4 HRaw HRow HB46 HOx HB47 hb67 hR hz47
   go_wp2
   generalize w'.alloc (.cells #[.slice (some ⟨gx, 0, none⟩) (word.length + 2) cx] 30) = w6 at *
   generalize w'.heap.size = gr0 at *
   obtain ⟨K, hK⟩ : ∃ K, fzK word ls k head = K := ⟨_, rfl⟩
   have HK := hidd hK
   clear hK
   have HX0 : Hid (RowOK word.length k head x0) := by show RowOK _ _ _ _; rw [← Hx0.out]; exact firstS_ok hk.1 hh.1
   go_loopw [13, 14] (fun rv iv wx => ∃ (i g c : Nat) (Z : List (List Int)) (us : List Value) (nxt : List (List Nat)) (ns : List Value) (fins : List Bool) (vf vn : Value) (R : RowMap), iv = .int .i64 (i : Int) ∧ rv = .slice (some ⟨g, 0, none⟩) Z.length c ∧ FzG K (ls.length + 1) x0 i Z nxt fins ∧ (∀ z ∈ Z, RowOK word.length k head z) ∧ Fz2 w wx w.heap.size rb (.slice al ls.length cl) vf vn (.slice aw word.length cw) rv word ls Z us nxt ns fins R) (fun _ iv _ => 1114112 - (intOf iv).toNat)
   case atStart => exact ⟨0, gr0, 1, [x0], _, [], [], [], _, _, R, rfl, rfl, FzG.zero _ _ _, fun z hz => by rw [List.mem_singleton.1 hz]; exact HX0.out, HFz.out⟩
   case round =>
    clear HFz
    obtain ⟨i, g, c, Z, us, nxt, ns, fins, vf, vn, R, rfl, rfl, hG, hZ, hF⟩ := hrel
    have HG := hidd hG
    have HZ := hidd hZ
    have HF := hidd hF
    have hfew := rows_few hl hk.1 hk.2 (by omega) hG.nodup hZ
    clear hG hZ hF
    by_cases hiz : i < Z.length
    ·have hizz : (i : Int) < (Z.length : Int) := by omega
     obtain ⟨x, hx⟩ : ∃ x, Z.getD i x0 = x := ⟨_, rfl⟩
     have hzi : Z[i]? = some x := by rw [← hx, List.getD_eq_getElem?_getD, List.getElem?_eq_getElem hiz]; rfl
     have HX : Hid (RowOK word.length k head x) := HZ.out x (List.mem_of_getElem? hzi)
     have hxl := HX.out.len
     have husl : us.length = Z.length := by have := HF.out.outer.1; omega
     obtain ⟨u, hu⟩ : ∃ u, us[i]? = some u := ⟨_, List.getElem?_eq_getElem (by omega)⟩
     have hRu := HF.out.row i u x hu hzi
     have hou := HF.out.rows.own _ _ _ hRu
     have c0 : wr.cell? ⟨g, i, none⟩ = some u := by rw [HF.out.outer.cellAt i (by omega)]; exact hu
     rcases hou.2 with ⟨_, h0⟩ | ⟨gu, cu, cur, rfl, hbu, hgu, hcu⟩
     ·omega
     have hcap : word.length + 2 ≤ cu := by have := hcu.1; omega
     have c1 : wr.cell? ⟨gu, word.length + 1, none⟩ = some (.int .i64 (fOf x (word.length + 1))) := by
      rw [hou.cellAt (word.length + 1) (by omega)]
      simp [zI, fOf, hxl]
     have HRow : Hid (HoldI wr (.slice (some ⟨gu, 0, none⟩) (word.length + 1) cu) (x.take (word.length + 1))) := by
      refine ⟨_, cu, by rw [List.length_take, hxl]; congr 1; omega, Or.inr ⟨gu, 0, rfl, ?_, fun t ht => ?_⟩⟩
      ·obtain ⟨_, c2, h2⟩ := own_blk hou (b := gu) rfl
       exact (Array.getElem?_eq_some_iff.1 h2).1
      ·rw [List.length_take, hxl] at ht
       rw [Nat.zero_add, hou.cellAt t (by omega)]
       have e : (x.take (word.length + 1)).getD t 0 = x.getD t 0 := by rw [List.getD_eq_getElem?_getD, List.getD_eq_getElem?_getD, List.getElem?_take_of_lt (by omega)]
       rw [e]
       simp [zI, show t < x.length by omega]
     have Hx := hidd hx
     have HRu := hidd hRu
     rw [hxl] at c0
     have Hxl2 := hidd hxl
     have hcm := HX.out.came
     obtain ⟨came, hcame⟩ : ∃ came, fOf x (word.length + 1) = came := ⟨_, rfl⟩
     rw [hcame] at hcm c1
     have HCm := hidd hcame
     have hgl : word.length + 1 < word.length + 2 := by omega
     have hglz : (word.length : Int) + 1 < ((word.length + 2 : Nat) : Int) := by omega
     have hclz : (word.length : Int) + 1 ≤ (cu : Int) := by omega
     have hdrop := hcu
     clear hcame hx hxl husl hu hRu hzi hbu hgu hcu hdrop hou
     go_upto_region 19 with fail
     have HN : Hid (Fz2 w (wr.alloc (.cells #[] 3)) w.heap.size rb (.slice al ls.length cl) vf vn (.slice aw word.length cw) (.slice (some ⟨g, 0, none⟩) Z.length c) word ls Z us nxt ns fins (upd R 2 (some (.slice (some ⟨wr.heap.size, 0, none⟩) 0 0, [])))) := HF.out.newInt ((Below.refl _ _).alloc (Nat.le_refl _) _) (Or.inl rfl) (own_empty wr 3)
     have HRu3 : Hid (upd R 2 (some (.slice (some ⟨wr.heap.size, 0, none⟩) 0 0, [])) (4 + 2 * i) = some (.slice (some ⟨gu, 0, none⟩) (word.length + 2) cu, x)) := by
      show _ = _
      rw [upd_other _ _ (by omega), HRu.out, Hxl2.out]
     clear HRow
     have hres7 := HN.out.rawb
     clear hres7
     generalize wr.alloc (.cells #[] 3) = w7 at *
     generalize wr.heap.size = gt0 at *
     go_wp2
     go_loopw [13, 17, 18] (fun rv tv jv wx => ∃ (j g c : Nat) (us : List Value) (R : RowMap), j ≤ ls.length + 1 ∧ jv = .int .i64 (j : Int) ∧ rv = .slice (some ⟨g, 0, none⟩) (metS K Z x j).length c ∧ (∃ g' c', tv = .slice (some ⟨g', 0, none⟩) j c') ∧ R 2 = some (tv, nat2 (toS K (metS K Z x j) x j)) ∧ R (4 + 2 * i) = some (.slice (some ⟨gu, 0, none⟩) (word.length + 2) cu, x) ∧ Fz2 w wx w.heap.size rb (.slice al ls.length cl) vf vn (.slice aw word.length cw) rv word ls (metS K Z x j) us nxt ns fins R) (fun _ _ jv _ => ls.length + 1 - (intOf jv).toNat)
     case atStart => exact ⟨0, g, c, us, _, by omega, rfl, rfl, ⟨gt0, 0, rfl⟩, upd_same _ _ _, HRu3.out, HN.out⟩
     case round =>
      clear HN HRu3 c0 c1
      obtain ⟨j, g3, c3, us3, R3, hj, rfl, rfl, ⟨g4, c4, rfl⟩, hR2, hRu, hF3⟩ := hrel
      have HR2 := hidd hR2
      have HRu := hidd hRu
      have HF3 := hidd hF3
      have hMo := metS_ok (word := word) (ls := ls) (Z := Z) hk.1 hh.1 HG.out.nodup HZ.out HX.out j
      rw [HK.out] at hMo
      have hMf := rows_few hl hk.1 hk.2 (by omega) hMo.1 hMo.2
      have HMo := hidd hMo
      have HMs := hidd (metS_succ K Z x j)
      have HTs := hidd (toS_succ K Z x j)
      have HTl := hidd (toS_len K (metS K Z x j) x j)
      clear hR2 hRu hF3 hMo
      have ral : wr.cell? ⟨rb, 0, none⟩ = some (.slice al ls.length cl) := blkc HF3.out.rawb 0
      by_cases hjl : j ≤ ls.length
      ·have hjlz : (j : Int) ≤ (ls.length : Int) := by omega
       go_upto_if 110 with fail
       go_cut [19] (fun lv wy => lv = .int .i64 (letS ls j) ∧ wy = wr)
       case first =>
        by_cases hjk : j < ls.length
        ·have hjkz : (j : Int) < (ls.length : Int) := by omega
         obtain ⟨gl, ol, rfl, hgl, hcl⟩ := (HF3.out.rows.hold HF3.out.letr).cells hjk
         have hle : letS ls j = ls.getD j 0 := by simp [letS, hjk]
         rw [← hle] at hcl
         generalize letS ls j = lt at *
         clear hle
         go_wp2
         go_meet
         case rel => exact ⟨rfl, rfl⟩
        ·have hjkz : ¬ (j : Int) < (ls.length : Int) := by omega
         have hle : letS ls j = -9 := by simp [letS, hjk]
         go_wp2
         go_meet
         case rel => exact ⟨by rw [hle], rfl⟩
       case rest =>
        obtain ⟨rfl, hwc⟩ := hcut
        obtain rfl := hwc.symm
        clear hwc
        obtain ⟨y, hy⟩ : ∃ y, K.step x j = y := ⟨_, rfl⟩
        have Hy : Hid (y = stepS word.length k head (hitZ word (letS ls j)) x) := by show _ = _; rw [← hy, ← HK.out]; rfl
        rw [hy] at HMs HTs
        clear hy
        generalize letS ls j = lt at *
        obtain ⟨st, hst⟩ : ∃ st, cameN head came (hitZ word lt) = st := ⟨_, rfl⟩
        have HSt := hidd hst
        go_upto_if 119 with fail
        go_cut [20] (fun sv wy => sv = .int .i64 st ∧ wy = wr)
        case first =>
         by_cases hch : came < head
         ·obtain ⟨cn, rfl⟩ : ∃ cn : Nat, came = (cn : Int) := ⟨came.toNat, by omega⟩
          have hcnl : cn < word.length := by omega
          have hcnz : (cn : Int) < (word.length : Int) := by omega
          obtain ⟨gw, ow, rfl, hgw, hcw⟩ := (HF3.out.rows.hold HF3.out.wrd).cells hcnl
          have hst2 : st = if word.getD cn 0 = lt then (cn : Int) + 1 else head + 1 := by rw [← hst]; simp [cameN, hch, hitZ]
          generalize word.getD cn 0 = wc0 at *
          clear hst
          by_cases hwl : wc0 = lt
          ·have hwb : (wc0 != lt) = false := by simp [hwl]
           rw [if_pos hwl] at hst2
           clear hwl
           go_wp2
           go_meet
           case rel => exact ⟨by rw [hst2], rfl⟩
          ·have hwb : (wc0 != lt) = true := by simpa using hwl
           rw [if_neg hwl] at hst2
           clear hwl
           go_wp2
           go_meet
           case rel => exact ⟨by rw [hst2], rfl⟩
         ·have hst2 : st = came := by rw [← hst]; simp [cameN, hch]
          clear hst
          go_wp2
          go_meet
          case rel => exact ⟨by rw [hst2], rfl⟩
        case rest =>
         obtain ⟨rfl, hwc⟩ := hcut
         obtain rfl := hwc.symm
         clear hwc
         have HRow : Hid (HoldI wr (.slice (some ⟨gu, 0, none⟩) (word.length + 1) cu) (x.take (word.length + 1))) := hold_take HF3.out.rows HRu.out Hxl2.out
         have HYz : Hid (zI y = zI (upN (word.length + 1) (nextF (hitZ word lt) k (fOf (x.take (word.length + 1))))) ++ [.int .i64 st]) := by
          show _ = _
          rw [Hy.out, step_zI, HCm.out, HSt.out]
         have hyl : y.length = word.length + 2 := by rw [Hy.out]; simp [stepS, rowL]
         clear hst
         go_wp2_with fail
         refine (row_any word (x.take (word.length + 1)) _ _ lt k _ (by omega) (by rw [List.length_take, Hxl2.out]; omega) (by omega) (fun i' hi' => ?rb) (HF3.out.rows.hold HF3.out.wrd) HRow.out).mono ?_
         case rb =>
          rw [fOf_take (by omega)]
          obtain ⟨_, hw9⟩ := HX.out.win
          have := hw9 i' hi'
          omega
         rintro e w8 ⟨vy, rfl, howy, hb8⟩
         have HOy := hidd howy
         have hb8z := hb8.size
         have HB8 := hidd hb8
         clear howy hb8
         go_upto_region 31 with (at_builtin; refine wp_push rfl _ _ 30 3 rfl i0 (.int .i64 0) 8 Tryd.underlying30 hi hz0 hz1 hz2 rfl wr.heap.size _ _ _ rfl HOy.out _ rfl rfl (by omega) (by decide) hb8z ?_)
         intro v9 w9 hown9 hbut9 hat9 hne9
         have hb9 : Below wr.heap.size wr w9 := HB8.out.trans (hbut9.below hb8z (fun x' hx' e => by have := (own_blk HOy.out e).1; omega))
         have HO9 : Hid (w9.ownsRow wr.heap.size 3 1 v9 y.length (zI y)) := by
          show World.ownsRow _ _ _ _ _ _ _
          rw [hyl, HYz.out]; exact hown9
         obtain ⟨gy, cy, hvy⟩ : ∃ g c, v9 = .slice (some ⟨g, 0, none⟩) (word.length + 2) c := by
          rcases own_cases HO9.out with ⟨h, h0⟩ | ⟨g, c, h, _, _⟩
          ·exact absurd h hne9
          ·exact ⟨g, c, by rw [← hyl]; exact h⟩
         subst hvy
         have HF9 := hidd (HF3.out.newInt hb9 (i := 3) (Or.inr rfl) HO9.out)
         have HR9 : Hid (upd R3 3 (some (.slice (some ⟨gy, 0, none⟩) (word.length + 2) cy, y)) 3 = some (.slice (some ⟨gy, 0, none⟩) (word.length + 2) cy, y)) := upd_same _ _ _
         have HR92 : Hid (upd R3 3 (some (.slice (some ⟨gy, 0, none⟩) (word.length + 2) cy, y)) 2 = some (.slice (some ⟨g4, 0, none⟩) j c4, nat2 (toS K (metS K Z x j) x j))) := by show _ = _; rw [upd_other _ _ (by omega)]; exact HR2.out
         have HR9u : Hid (upd R3 3 (some (.slice (some ⟨gy, 0, none⟩) (word.length + 2) cy, y)) (4 + 2 * i) = some (.slice (some ⟨gu, 0, none⟩) (word.length + 2) cu, x)) := by show _ = _; rw [upd_other _ _ (by omega)]; exact HRu.out
         have Hyl := hidd hyl
         clear hown9 hbut9 hat9 hne9 HOy HB8 hb8z hb9 HO9 HRow HF3 HR2 HRu HYz hyl ral
         generalize upd R3 3 (some (.slice (some ⟨gy, 0, none⟩) (word.length + 2) cy, y)) = R9 at *
         obtain ⟨M, hM⟩ : ∃ M, metS K Z x j = M := ⟨_, rfl⟩
         have HLi : Hid (i < M.length) := by
          show _ < _
          obtain ⟨r, hr⟩ := metS_pre K Z x j
          rw [← hM, hr, List.length_append]; omega
         rw [hM] at HF9 HR92 HMs HTs HMo hMf HTl
         simp only [hM]
         clear hM
         go_wp2
         go_loopw [22] (fun av wx => ∃ t q : Nat, t ≤ M.length ∧ av = .int .i64 (t : Int) ∧ (∀ p, p < t → M.getD p [] ≠ y) ∧ wx = w9.drewN q) (fun av _ => M.length - (intOf av).toNat)
         case atStart => exact ⟨0, 0, by omega, rfl, fun p hp => by omega, rfl⟩
         case round =>
          obtain ⟨t, q, ht, rfl, hbef, hwq⟩ := hrel
          have HBf := hidd hbef
          have HWq := hidd hwq
          have HFq : Hid (Fz2 w wr w.heap.size rb (.slice al ls.length cl) vf vn (.slice aw word.length cw) (.slice (some ⟨g3, 0, none⟩) M.length c3) word ls M us3 nxt ns fins R9) := by
           show Fz2 _ _ _ _ _ _ _ _ _ _ _ _ _ _ _ _ _
           rw [hwq]
           exact HF9.out.keep (below_drewN (Below.refl _ _) q)
          clear hbef hwq
          by_cases htl : t < M.length
          ·have htlz : (t : Int) < (M.length : Int) := by omega
           have htlb : decide ((t : Int) < (M.length : Int)) = true := by simpa using htl
           have hml : (M.getD t []).length = word.length + 1 + 1 := (HMo.out.2 _ (by rw [List.getD_eq_getElem?_getD, List.getElem?_eq_getElem htl]; exact List.getElem_mem htl)).len
           obtain ⟨gq, cq, hq1, hq2⟩ := HFq.out.rowAt htl hml
           have HQ2 := hidd hq2
           have HHy := hidd (HFq.out.rows.hold HR9.out)
           clear hq2
           go_wp2_with fail
           refine (same_any (M.getD t []) y _ _ _ (by rw [hml]; omega) (by rw [Hyl.out]; omega) HQ2.out HHy.out).mono ?_
           rintro e w10 ⟨rfl, q2, hw10⟩
           have HF10 : Hid (Fz2 w w10 w.heap.size rb (.slice al ls.length cl) vf vn (.slice aw word.length cw) (.slice (some ⟨g3, 0, none⟩) M.length c3) word ls M us3 nxt ns fins R9) := by
            show Fz2 _ _ _ _ _ _ _ _ _ _ _ _ _ _ _ _ _
            rw [hw10]
            exact HFq.out.keep (below_drewN (Below.refl _ _) q2)
           have HW10 := hidd hw10
           clear hw10 hml
           by_cases heq : M.getD t [] = y
           ·have hdb : decide (M.getD t [] = y) = true := by simpa using heq
            obtain ⟨hm1, hm2⟩ := meet_found htl HBf.out heq
            have HMe : Hid (metS K Z x (j + 1) = M) := HMs.out.trans hm1
            have HTe : Hid (toS K (metS K Z x (j + 1)) x (j + 1) = toS K M x j ++ [t]) := by show _ = _; rw [HTs.out, HMs.out, hm2]
            have hte : ((t : Int) == (M.length : Int)) = false := by simp; omega
            rw [hdb]
            clear heq hm1 hm2
            have HOt := hidd (HF10.out.rows.own 2 _ _ HR92.out)
            have hbt := HF10.out.below.size
            go_wp2_with (at_builtin; refine wp_push rfl _ _ 30 3 rfl i0 (.int .i64 0) 8 Tryd.underlying30 hi hz0 hz1 hz2 rfl w.heap.size _ _ _ rfl HOt.out _ rfl rfl (by rw [nat2_len, HTl.out]; omega) (by decide) hbt ?_)
            intro v11 w11 hown11 hbut11 hat11 hne11
            have HF11 := hidd (HF10.out.growInt (i := 2) (Or.inl rfl) HR92.out hbut11 (ys := nat2 (toS K M x j ++ [t])) (by rw [nat2_app, zI_app, List.length_append]; exact hown11) hat11)
            obtain ⟨g11, c11, hv11⟩ : ∃ g c, v11 = .slice (some ⟨g, 0, none⟩) (j + 1) c := by
             rcases own_cases hown11 with ⟨h, h0⟩ | ⟨g, c, h, _, _⟩
             ·exact absurd h hne11
             ·exact ⟨g, c, by rw [nat2_len, HTl.out] at h; exact h⟩
            subst hv11
            clear hown11 hbut11 hat11 hne11 HOt hbt
            go_wp2
            go_roundw
            case rel =>
             refine ⟨j + 1, g3, c3, us3, upd R9 2 (some (.slice (some ⟨g11, 0, none⟩) (j + 1) c11, nat2 (toS K M x j ++ [t]))), by omega, by go_num, by rw [HMe.out], ⟨g11, c11, rfl⟩, by rw [HTe.out]; exact upd_same _ _ _, ?_, by rw [HMe.out]; exact HF11.out⟩
             rw [upd_other _ _ (by omega)]; exact HR9u.out
            case measure => simp [intOf]; omega
           ·have hdb : decide (M.getD t [] = y) = false := by simpa using heq
            have HBf2 : Hid (∀ p, p < t + 1 → M.getD p [] ≠ y) := by
             show ∀ _, _
             intro p hp
             by_cases e : p = t
             ·rw [e]; exact heq
             ·exact HBf.out p (by omega)
            rw [hdb]
            clear heq
            go_wp2
            go_roundw
            case rel => exact ⟨t + 1, q + q2, by omega, by go_num, HBf2.out, by rw [HW10.out, HWq.out, World.drewN_drewN]⟩
            case measure => simp [intOf]; omega
          ·have htlz : ¬ (t : Int) < (M.length : Int) := by omega
           have htlb : decide ((t : Int) < (M.length : Int)) = false := by simpa using htl
           obtain rfl : t = M.length := by omega
           obtain ⟨hm1, hm2⟩ := meet_new HBf.out
           have HMe : Hid (metS K Z x (j + 1) = M ++ [y]) := HMs.out.trans hm1
           have HTe : Hid (toS K (metS K Z x (j + 1)) x (j + 1) = toS K M x j ++ [M.length]) := by show _ = _; rw [HTs.out, HMs.out, hm2]
           clear hm1 hm2
           have hteq : ((M.length : Int) == (M.length : Int)) = true := by simp
           have HOr := hidd HFq.out.outer
           have hbr := HFq.out.below.size
           go_upto_region 36 with (at_builtin; refine wp_push rfl _ _ 60 30 rfl is (.slice none 0 0) 24 Tryd.underlying60 his hs0 hs1 hs2 rfl w.heap.size _ _ _ rfl HOr.out _ rfl rfl (by omega) (by decide) hbr ?_)
           intro v10 w10 hown10 hbut10 hat10 hne10
           have HF10 := hidd (HFq.out.pushRow HR9.out hbut10 hown10 hat10)
           obtain ⟨g10, c10, hv10⟩ : ∃ g c, v10 = .slice (some ⟨g, 0, none⟩) (M.length + 1) c := by
            rcases own_cases hown10 with ⟨h, h0⟩ | ⟨g, c, h, _, _⟩
            ·exact absurd h hne10
            ·exact ⟨g, c, h⟩
           subst hv10
           have HRt : Hid (upd (upd R9 (4 + 2 * M.length) (some (.slice (some ⟨gy, 0, none⟩) (word.length + 2) cy, y))) 3 none 2 = some (.slice (some ⟨g4, 0, none⟩) j c4, nat2 (toS K M x j))) := by
            show _ = _
            rw [upd_other _ _ (by omega), upd_other _ _ (by omega)]; exact HR92.out
           have HRx : Hid (upd (upd R9 (4 + 2 * M.length) (some (.slice (some ⟨gy, 0, none⟩) (word.length + 2) cy, y))) 3 none (4 + 2 * i) = some (.slice (some ⟨gu, 0, none⟩) (word.length + 2) cu, x)) := by
            show _ = _
            have := HLi.out
            rw [upd_other _ _ (by omega), upd_other _ _ (by omega)]; exact HR9u.out
           clear hown10 hbut10 hat10 hne10 HOr hbr
           generalize upd (upd R9 (4 + 2 * M.length) (some (.slice (some ⟨gy, 0, none⟩) (word.length + 2) cy, y))) 3 none = Rt at *
           have HOt := hidd (HF10.out.rows.own 2 _ _ HRt.out)
           have hbt := HF10.out.below.size
           go_wp2_with (at_builtin; refine wp_push rfl _ _ 30 3 rfl i0 (.int .i64 0) 8 Tryd.underlying30 hi hz0 hz1 hz2 rfl w.heap.size _ _ _ rfl HOt.out _ rfl rfl (by rw [nat2_len, HTl.out]; omega) (by decide) hbt ?_)
           intro v11 w11 hown11 hbut11 hat11 hne11
           have HF11 := hidd (HF10.out.growInt (i := 2) (Or.inl rfl) HRt.out hbut11 (ys := nat2 (toS K M x j ++ [M.length])) (by rw [nat2_app, zI_app, List.length_append]; exact hown11) hat11)
           obtain ⟨g11, c11, hv11⟩ : ∃ g c, v11 = .slice (some ⟨g, 0, none⟩) (j + 1) c := by
            rcases own_cases hown11 with ⟨h, h0⟩ | ⟨g, c, h, _, _⟩
            ·exact absurd h hne11
            ·exact ⟨g, c, by rw [nat2_len, HTl.out] at h; exact h⟩
           subst hv11
           clear hown11 hbut11 hat11 hne11 HOt hbt
           go_wp2
           go_roundw
           case rel =>
            refine ⟨j + 1, g10, c10, us3 ++ [.slice (some ⟨gy, 0, none⟩) (word.length + 2) cy], upd Rt 2 (some (.slice (some ⟨g11, 0, none⟩) (j + 1) c11, nat2 (toS K M x j ++ [M.length]))), by omega, by go_num, by rw [HMe.out, List.length_append, List.length_singleton], ⟨g11, c11, rfl⟩, by rw [HTe.out]; exact upd_same _ _ _, ?_, by rw [HMe.out]; exact HF11.out⟩
            rw [upd_other _ _ (by omega)]; exact HRx.out
           case measure => simp [intOf]; omega
      ·have hjlz : ¬ (j : Int) ≤ (ls.length : Int) := by omega
       obtain rfl : j = ls.length + 1 := by omega
       have hni : nxt.length ≤ 1114112 := by rw [HG.out.nlen]; omega
       have hfi : fins.length ≤ 1114112 := by rw [HG.out.flen]; omega
       obtain ⟨af, cf, hvf⟩ : ∃ a c, vf = .slice a fins.length c := by
        rcases own_cases HF3.out.fin with ⟨h, h0⟩ | ⟨g, c, h, _, _⟩
        ·exact ⟨none, 0, by rw [h, h0]⟩
        ·exact ⟨_, c, h⟩
       obtain ⟨an, cn, hvn⟩ : ∃ a c, vn = .slice a nxt.length c := by
        rcases own_cases HF3.out.nx with ⟨h, h0⟩ | ⟨g, c, h, _, _⟩
        ·exact ⟨none, 0, by rw [h, h0]⟩
        ·exact ⟨_, c, h⟩
       subst hvf hvn
       have r2 : wr.cell? ⟨rb, 2, none⟩ = some (.slice an nxt.length cn) := blkc HF3.out.rawb 2
       have HOn := hidd HF3.out.nx
       have hbn := HF3.out.below.size
       go_upto_region 38 with (at_builtin; refine wp_push rfl _ _ 60 30 rfl is (.slice none 0 0) 24 Tryd.underlying60 his hs0 hs1 hs2 rfl w.heap.size _ _ _ rfl HOn.out _ rfl rfl (by omega) (by decide) hbn ?_)
       intro v12 w12 hown12 hbut12 hat12 hne12
       obtain ⟨hF12, hr12⟩ := HF3.out.pushNext HR2.out hbut12 hown12 hat12
       obtain ⟨g12, c12, hv12⟩ : ∃ g c, v12 = .slice (some ⟨g, 0, none⟩) (nxt.length + 1) c := by
        rcases own_cases hown12 with ⟨h, h0⟩ | ⟨g, c, h, _, _⟩
        ·exact absurd h hne12
        ·exact ⟨g, c, h⟩
       subst hv12
       have HF12 := hidd hF12
       have HRx : Hid (upd (upd R3 (5 + 2 * nxt.length) (some (.slice (some ⟨g4, 0, none⟩) (ls.length + 1) c4, nat2 (toS K (metS K Z x (ls.length + 1)) x (ls.length + 1))))) 2 none (4 + 2 * i) = some (.slice (some ⟨gu, 0, none⟩) (word.length + 2) cu, x)) := by
        show _ = _
        rw [upd_other _ _ (by omega), upd_other _ _ (by omega)]; exact HRu.out
       have q2 : w12.cell? ⟨rb, 2, none⟩ = some (.slice an nxt.length cn) := blkc hr12 2
       have qf := blkf hr12 2
       have HStep := hidd (HG.out.step hiz)
       clear hF12 hr12 hown12 hbut12 hat12 hne12 HOn hbn r2 ral
       generalize upd (upd R3 (5 + 2 * nxt.length) (some (.slice (some ⟨g4, 0, none⟩) (ls.length + 1) c4, nat2 (toS K (metS K Z x (ls.length + 1)) x (ls.length + 1))))) 2 none = R12 at *
       go_upto_region 38 with fail
       generalize hW2 : w12.setCell ⟨rb, 2, none⟩ (.slice (some ⟨g12, 0, none⟩) (nxt.length + 1) c12) = W2 at *
       clear hW2 q2 qf
       obtain ⟨ib, hib, hb0, hb1, hb2⟩ := info_parts Tryd.infoBoL
       obtain ⟨d, hd0⟩ : ∃ d, fOf x word.length = d := ⟨_, rfl⟩
       have HD := hidd hd0
       have HCell : Hid (∀ W' : World, RowsF W' w.heap.size R12 → W'.cell? ⟨gu, word.length, none⟩ = some (.int .i64 d)) := by
        show ∀ _, _
        intro W' hR'
        have ho := hR'.own _ _ _ HRx.out
        rw [Hxl2.out] at ho
        have := ho.cellAt word.length (by omega)
        rw [this, ← hd0]
        have hx2 := Hxl2.out
        simp [zI, fOf, hx2]
       have HFd : Hid (Fz2 w W2.drew w.heap.size rb (.slice al ls.length cl) (.slice af fins.length cf) (.slice (some ⟨g12, 0, none⟩) (nxt.length + 1) c12) (.slice aw word.length cw) (.slice (some ⟨g3, 0, none⟩) (metS K Z x (ls.length + 1)).length c3) word ls (metS K Z x (ls.length + 1)) us3 (nxt ++ [toS K (metS K Z x (ls.length + 1)) x (ls.length + 1)]) (ns ++ [.slice (some ⟨g4, 0, none⟩) (ls.length + 1) c4]) fins R12) := HF12.out.keep (below_drewN (Below.refl _ _) 1)
       have S0 := HCell.out _ HFd.out.rows
       have HCa : Hid (∀ o : Obj, (W2.drew.alloc o).cell? ⟨gu, word.length, none⟩ = some (.int .i64 d)) := fun o => HCell.out _ (HFd.out.rows.below ((Below.refl _ _).alloc (Nat.le_refl _) _))
       have b1 : W2.drew.cell? ⟨rb, 1, none⟩ = some (.slice af fins.length cf) := blkc HFd.out.rawb 1
       have HBa : Hid (∀ o : Obj, (W2.drew.alloc o).cell? ⟨rb, 1, none⟩ = some (.slice af fins.length cf)) := fun o => blkc (blko HFd.out.rawb ((Below.refl _ _).alloc (Nat.le_refl _) _)) 1
       have HEnd : Hid (∀ f, f = (decide (d ≤ k) && decide (came = head)) → FzG K (ls.length + 1) x0 (i + 1) (metS K Z x (ls.length + 1)) (nxt ++ [toS K (metS K Z x (ls.length + 1)) x (ls.length + 1)]) (fins ++ [f])) := by
        show ∀ _, _
        intro f hf
        have h1 := HStep.out
        rw [Hx.out] at h1
        have h2 : K.fin x = f := by
         rw [hf, ← HK.out, ← hd0, ← HCm.out]; rfl
        rw [h2] at h1
        exact h1
       have hgw : (word.length : Int) < ((word.length + 1 : Nat) : Int) := by omega
       have hgw2 : word.length < word.length + 1 := by omega
       clear hd0
       by_cases hdk : d ≤ k
       ·have hdb : decide (d ≤ k) = true := by simpa using hdk
        by_cases hch : came = head
        ·have hcb : (came == head) = true := by simpa using hch
         have HFe : Hid (true = (decide (d ≤ k) && decide (came = head))) := by show _ = _; simp [hdk, hch]
         clear hch
         go_upto_region 38 with fail
         refine wp_region_held (S := fun W' => W'.cell? ⟨gu, word.length, none⟩ = some (.int .i64 d)) (by kernel_rfl) ?_
         try simp only [Act.put, List.getElem_toArray, List.getElem_cons_succ, List.getElem_cons_zero, List.setIfInBounds_toArray, List.set_cons_zero, List.set_cons_succ]
         refine tkX 0 (h := ?_)
         try simp only [Act.put, List.getElem_toArray, List.getElem_cons_succ, List.getElem_cons_zero, List.setIfInBounds_toArray, List.set_cons_zero, List.set_cons_succ]
         refine tkX 2 (h := ?_)
         try simp only [Act.put, List.getElem_toArray, List.getElem_cons_succ, List.getElem_cons_zero, List.setIfInBounds_toArray, List.set_cons_zero, List.set_cons_succ]
         refine tkX 3 (h := ?_)
         try simp only [Act.put, List.getElem_toArray, List.getElem_cons_succ, List.getElem_cons_zero, List.setIfInBounds_toArray, List.set_cons_zero, List.set_cons_succ]
         refine tkX 4 (h := ?_)
         try simp only [Act.put, List.getElem_toArray, List.getElem_cons_succ, List.getElem_cons_zero, List.setIfInBounds_toArray, List.set_cons_zero, List.set_cons_succ]
         refine tkX 5 (h := ?_)
         try simp only [Act.put, List.getElem_toArray, List.getElem_cons_succ, List.getElem_cons_zero, List.setIfInBounds_toArray, List.set_cons_zero, List.set_cons_succ]
         refine tkX 6 (h := ?_)
         try simp only [Act.put, List.getElem_toArray, List.getElem_cons_succ, List.getElem_cons_zero, List.setIfInBounds_toArray, List.set_cons_zero, List.set_cons_succ]
         refine tkX 7 (h := ?_)
         try simp only [Act.put, List.getElem_toArray, List.getElem_cons_succ, List.getElem_cons_zero, List.setIfInBounds_toArray, List.set_cons_zero, List.set_cons_succ]
         refine tkX 8 (h := ?_)
         try simp only [Act.put, List.getElem_toArray, List.getElem_cons_succ, List.getElem_cons_zero, List.setIfInBounds_toArray, List.set_cons_zero, List.set_cons_succ]
         refine tkX 9 (h := ?_)
         try simp only [Act.put, List.getElem_toArray, List.getElem_cons_succ, List.getElem_cons_zero, List.setIfInBounds_toArray, List.set_cons_zero, List.set_cons_succ]
         refine tkX 10 (h := ?_)
         try simp only [Act.put, List.getElem_toArray, List.getElem_cons_succ, List.getElem_cons_zero, List.setIfInBounds_toArray, List.set_cons_zero, List.set_cons_succ]
         refine tkX 11 (h := ?_)
         try simp only [Act.put, List.getElem_toArray, List.getElem_cons_succ, List.getElem_cons_zero, List.setIfInBounds_toArray, List.set_cons_zero, List.set_cons_succ]
         refine tkX 12 (h := ?_)
         try simp only [Act.put, List.getElem_toArray, List.getElem_cons_succ, List.getElem_cons_zero, List.setIfInBounds_toArray, List.set_cons_zero, List.set_cons_succ]
         refine tkX 13 (h := ?_)
         try simp only [Act.put, List.getElem_toArray, List.getElem_cons_succ, List.getElem_cons_zero, List.setIfInBounds_toArray, List.set_cons_zero, List.set_cons_succ]
         refine wpAnyH_two 1 14 (by kernel_rfl) ?oA ?oB
         case oA =>
          refine wpOp_val (.slice af fins.length cf) _ rfl (by kernel_rfl) (exec_loadBs _ _ _ _ rfl rb 1 _ (by kernel_rfl) b1) ?_
          refine ⟨S0, ?_⟩
          try simp only [Act.put, List.getElem_toArray, List.getElem_cons_succ, List.getElem_cons_zero, List.setIfInBounds_toArray, List.set_cons_zero, List.set_cons_succ]
          refine wpAnyH_one 14 (by kernel_rfl) ?_
          refine wpOp_val (.slice (some ⟨W2.drew.heap.size, 0, none⟩) 1 1) (W2.drew.alloc (.cells #[.bool true] 4)) rfl (by kernel_rfl) (exec_boxBs _ _ _ _ rfl true (by kernel_rfl)) ?_
          refine ⟨HCa.out _, ?_⟩
          try simp only [Act.put, List.getElem_toArray, List.getElem_cons_succ, List.getElem_cons_zero, List.setIfInBounds_toArray, List.set_cons_zero, List.set_cons_succ]
          refine wpAnyH_one 15 (by kernel_rfl) ?_
          refine wpOp_wp rfl (by kernel_rfl) (wp_append_lies _ (.tmp 172) (.tmp 185) 59 rfl w.heap.size 4 ib (.bool false) 1 1 Tryd.underlying59 hib hb0 hb1 hb2 rfl (by decide) (.slice af fins.length cf) fins.length (fins.map Value.bool) (by kernel_rfl) (HFd.out.fin.alloc _) ⟨W2.drew.heap.size, 0, none⟩ 1 1 [.bool true] (by kernel_rfl) rfl (one_cell (blkc (heap_alloc_new W2.drew _) 0)) (by intro u' hu'; simp at hu'; subst hu'; rfl) (by omega) (by unfold maxLen; omega) (by omega) (by have := HFd.out.below.size; simp at this ⊢; omega) _ rfl ?_)
          intro g6 cp6 w6 hown6 hgrow6 hat6 hlt6
          have hbut6 : But (fun b => (Value.slice af fins.length cf).ownBlock = some b) W2.drew w6 := ⟨hgrow6.os, hgrow6.tape, hgrow6.output, by have := hgrow6.size; simp at this ⊢; omega, fun b hb hn => by rw [hgrow6.block b (by simp at hb ⊢; omega) (fun e => hn e.symm), Below.heap_alloc _ _ _ hb]⟩
          obtain ⟨hF6, hr6⟩ := HFd.out.pushFin (f := true) hbut6 hown6
          have s6 := blkc hr6 1
          have f6 := blkf hr6 1
          have S6 := HCell.out _ (HFd.out.rows.but hbut6 (own_notInt HFd.out.fin (by decide)))
          have S7 := HCell.out _ hF6.rows
          have HF6 := hidd hF6
          clear hF6 hr6 hown6 hgrow6 hat6 hlt6 hbut6
          refine ⟨S6, ?_⟩
          try simp only [Act.put, List.getElem_toArray, List.getElem_cons_succ, List.getElem_cons_zero, List.setIfInBounds_toArray, List.set_cons_zero, List.set_cons_succ]
          refine tkX 16 (h := ?_)
          try simp only [Act.put, List.getElem_toArray, List.getElem_cons_succ, List.getElem_cons_zero, List.setIfInBounds_toArray, List.set_cons_zero, List.set_cons_succ]
          refine wpAnyH_one 17 (by kernel_rfl) ?_
          refine wpOp_skip (w6.setCell ⟨rb, 1, none⟩ (.slice (some ⟨g6, 0, none⟩) (fins.length + 1) cp6)) rfl (by kernel_rfl) (exec_storeBs _ _ _ _ _ rfl rb 1 (some ⟨g6, 0, none⟩) (fins.length + 1) cp6 _ (by kernel_rfl) (by kernel_rfl) s6 f6) ?_
          refine ⟨S7, ?_⟩
          try simp only [Act.put, List.getElem_toArray, List.getElem_cons_succ, List.getElem_cons_zero, List.setIfInBounds_toArray, List.set_cons_zero, List.set_cons_succ]
          refine wpAnyH_done (by kernel_rfl) ?_ _
          clear s6 f6 S6 S7
          go_wp2
          go_roundw
          case rel => exact ⟨i + 1, g3, c3, (metS K Z x (ls.length + 1)), us3, nxt ++ [toS K (metS K Z x (ls.length + 1)) x (ls.length + 1)], ns ++ [.slice (some ⟨g4, 0, none⟩) (ls.length + 1) c4], fins ++ [true], (.slice (some ⟨g6, 0, none⟩) (fins.length + 1) cp6), .slice (some ⟨g12, 0, none⟩) (nxt.length + 1) c12, R12, by go_num, rfl, HEnd.out true HFe.out, HMo.out.2, HF6.out⟩
          case measure => simp [intOf]; omega
         case oB =>
          refine wpOp_val (.slice (some ⟨W2.drew.heap.size, 0, none⟩) 1 1) (W2.drew.alloc (.cells #[.bool true] 4)) rfl (by kernel_rfl) (exec_boxBs _ _ _ _ rfl true (by kernel_rfl)) ?_
          refine ⟨HCa.out _, ?_⟩
          try simp only [Act.put, List.getElem_toArray, List.getElem_cons_succ, List.getElem_cons_zero, List.setIfInBounds_toArray, List.set_cons_zero, List.set_cons_succ]
          refine wpAnyH_one 1 (by kernel_rfl) ?_
          refine wpOp_val (.slice af fins.length cf) _ rfl (by kernel_rfl) (exec_loadBs _ _ _ _ rfl rb 1 _ (by kernel_rfl) (HBa.out _)) ?_
          refine ⟨HCa.out _, ?_⟩
          try simp only [Act.put, List.getElem_toArray, List.getElem_cons_succ, List.getElem_cons_zero, List.setIfInBounds_toArray, List.set_cons_zero, List.set_cons_succ]
          refine wpAnyH_one 15 (by kernel_rfl) ?_
          refine wpOp_wp rfl (by kernel_rfl) (wp_append_lies _ (.tmp 172) (.tmp 185) 59 rfl w.heap.size 4 ib (.bool false) 1 1 Tryd.underlying59 hib hb0 hb1 hb2 rfl (by decide) (.slice af fins.length cf) fins.length (fins.map Value.bool) (by kernel_rfl) (HFd.out.fin.alloc _) ⟨W2.drew.heap.size, 0, none⟩ 1 1 [.bool true] (by kernel_rfl) rfl (one_cell (blkc (heap_alloc_new W2.drew _) 0)) (by intro u' hu'; simp at hu'; subst hu'; rfl) (by omega) (by unfold maxLen; omega) (by omega) (by have := HFd.out.below.size; simp at this ⊢; omega) _ rfl ?_)
          intro g6 cp6 w6 hown6 hgrow6 hat6 hlt6
          have hbut6 : But (fun b => (Value.slice af fins.length cf).ownBlock = some b) W2.drew w6 := ⟨hgrow6.os, hgrow6.tape, hgrow6.output, by have := hgrow6.size; simp at this ⊢; omega, fun b hb hn => by rw [hgrow6.block b (by simp at hb ⊢; omega) (fun e => hn e.symm), Below.heap_alloc _ _ _ hb]⟩
          obtain ⟨hF6, hr6⟩ := HFd.out.pushFin (f := true) hbut6 hown6
          have s6 := blkc hr6 1
          have f6 := blkf hr6 1
          have S6 := HCell.out _ (HFd.out.rows.but hbut6 (own_notInt HFd.out.fin (by decide)))
          have S7 := HCell.out _ hF6.rows
          have HF6 := hidd hF6
          clear hF6 hr6 hown6 hgrow6 hat6 hlt6 hbut6
          refine ⟨S6, ?_⟩
          try simp only [Act.put, List.getElem_toArray, List.getElem_cons_succ, List.getElem_cons_zero, List.setIfInBounds_toArray, List.set_cons_zero, List.set_cons_succ]
          refine tkX 16 (h := ?_)
          try simp only [Act.put, List.getElem_toArray, List.getElem_cons_succ, List.getElem_cons_zero, List.setIfInBounds_toArray, List.set_cons_zero, List.set_cons_succ]
          refine wpAnyH_one 17 (by kernel_rfl) ?_
          refine wpOp_skip (w6.setCell ⟨rb, 1, none⟩ (.slice (some ⟨g6, 0, none⟩) (fins.length + 1) cp6)) rfl (by kernel_rfl) (exec_storeBs _ _ _ _ _ rfl rb 1 (some ⟨g6, 0, none⟩) (fins.length + 1) cp6 _ (by kernel_rfl) (by kernel_rfl) s6 f6) ?_
          refine ⟨S7, ?_⟩
          try simp only [Act.put, List.getElem_toArray, List.getElem_cons_succ, List.getElem_cons_zero, List.setIfInBounds_toArray, List.set_cons_zero, List.set_cons_succ]
          refine wpAnyH_done (by kernel_rfl) ?_ _
          clear s6 f6 S6 S7
          go_wp2
          go_roundw
          case rel => exact ⟨i + 1, g3, c3, (metS K Z x (ls.length + 1)), us3, nxt ++ [toS K (metS K Z x (ls.length + 1)) x (ls.length + 1)], ns ++ [.slice (some ⟨g4, 0, none⟩) (ls.length + 1) c4], fins ++ [true], (.slice (some ⟨g6, 0, none⟩) (fins.length + 1) cp6), .slice (some ⟨g12, 0, none⟩) (nxt.length + 1) c12, R12, by go_num, rfl, HEnd.out true HFe.out, HMo.out.2, HF6.out⟩
          case measure => simp [intOf]; omega
        ·have hcb : (came == head) = false := by simpa using hch
         have HFe : Hid (false = (decide (d ≤ k) && decide (came = head))) := by show _ = _; simp [hch]
         clear hch
         go_upto_region 38 with fail
         refine wp_region_held (S := fun W' => W'.cell? ⟨gu, word.length, none⟩ = some (.int .i64 d)) (by kernel_rfl) ?_
         try simp only [Act.put, List.getElem_toArray, List.getElem_cons_succ, List.getElem_cons_zero, List.setIfInBounds_toArray, List.set_cons_zero, List.set_cons_succ]
         refine tkX 0 (h := ?_)
         try simp only [Act.put, List.getElem_toArray, List.getElem_cons_succ, List.getElem_cons_zero, List.setIfInBounds_toArray, List.set_cons_zero, List.set_cons_succ]
         refine tkX 2 (h := ?_)
         try simp only [Act.put, List.getElem_toArray, List.getElem_cons_succ, List.getElem_cons_zero, List.setIfInBounds_toArray, List.set_cons_zero, List.set_cons_succ]
         refine tkX 3 (h := ?_)
         try simp only [Act.put, List.getElem_toArray, List.getElem_cons_succ, List.getElem_cons_zero, List.setIfInBounds_toArray, List.set_cons_zero, List.set_cons_succ]
         refine tkX 4 (h := ?_)
         try simp only [Act.put, List.getElem_toArray, List.getElem_cons_succ, List.getElem_cons_zero, List.setIfInBounds_toArray, List.set_cons_zero, List.set_cons_succ]
         refine tkX 5 (h := ?_)
         try simp only [Act.put, List.getElem_toArray, List.getElem_cons_succ, List.getElem_cons_zero, List.setIfInBounds_toArray, List.set_cons_zero, List.set_cons_succ]
         refine tkX 6 (h := ?_)
         try simp only [Act.put, List.getElem_toArray, List.getElem_cons_succ, List.getElem_cons_zero, List.setIfInBounds_toArray, List.set_cons_zero, List.set_cons_succ]
         refine tkX 7 (h := ?_)
         try simp only [Act.put, List.getElem_toArray, List.getElem_cons_succ, List.getElem_cons_zero, List.setIfInBounds_toArray, List.set_cons_zero, List.set_cons_succ]
         refine tkX 8 (h := ?_)
         try simp only [Act.put, List.getElem_toArray, List.getElem_cons_succ, List.getElem_cons_zero, List.setIfInBounds_toArray, List.set_cons_zero, List.set_cons_succ]
         refine tkX 9 (h := ?_)
         try simp only [Act.put, List.getElem_toArray, List.getElem_cons_succ, List.getElem_cons_zero, List.setIfInBounds_toArray, List.set_cons_zero, List.set_cons_succ]
         refine tkX 10 (h := ?_)
         try simp only [Act.put, List.getElem_toArray, List.getElem_cons_succ, List.getElem_cons_zero, List.setIfInBounds_toArray, List.set_cons_zero, List.set_cons_succ]
         refine tkX 11 (h := ?_)
         try simp only [Act.put, List.getElem_toArray, List.getElem_cons_succ, List.getElem_cons_zero, List.setIfInBounds_toArray, List.set_cons_zero, List.set_cons_succ]
         refine tkX 12 (h := ?_)
         try simp only [Act.put, List.getElem_toArray, List.getElem_cons_succ, List.getElem_cons_zero, List.setIfInBounds_toArray, List.set_cons_zero, List.set_cons_succ]
         refine tkX 13 (h := ?_)
         try simp only [Act.put, List.getElem_toArray, List.getElem_cons_succ, List.getElem_cons_zero, List.setIfInBounds_toArray, List.set_cons_zero, List.set_cons_succ]
         refine wpAnyH_two 1 14 (by kernel_rfl) ?oA ?oB
         case oA =>
          refine wpOp_val (.slice af fins.length cf) _ rfl (by kernel_rfl) (exec_loadBs _ _ _ _ rfl rb 1 _ (by kernel_rfl) b1) ?_
          refine ⟨S0, ?_⟩
          try simp only [Act.put, List.getElem_toArray, List.getElem_cons_succ, List.getElem_cons_zero, List.setIfInBounds_toArray, List.set_cons_zero, List.set_cons_succ]
          refine wpAnyH_one 14 (by kernel_rfl) ?_
          refine wpOp_val (.slice (some ⟨W2.drew.heap.size, 0, none⟩) 1 1) (W2.drew.alloc (.cells #[.bool false] 4)) rfl (by kernel_rfl) (exec_boxBs _ _ _ _ rfl false (by kernel_rfl)) ?_
          refine ⟨HCa.out _, ?_⟩
          try simp only [Act.put, List.getElem_toArray, List.getElem_cons_succ, List.getElem_cons_zero, List.setIfInBounds_toArray, List.set_cons_zero, List.set_cons_succ]
          refine wpAnyH_one 15 (by kernel_rfl) ?_
          refine wpOp_wp rfl (by kernel_rfl) (wp_append_lies _ (.tmp 172) (.tmp 185) 59 rfl w.heap.size 4 ib (.bool false) 1 1 Tryd.underlying59 hib hb0 hb1 hb2 rfl (by decide) (.slice af fins.length cf) fins.length (fins.map Value.bool) (by kernel_rfl) (HFd.out.fin.alloc _) ⟨W2.drew.heap.size, 0, none⟩ 1 1 [.bool false] (by kernel_rfl) rfl (one_cell (blkc (heap_alloc_new W2.drew _) 0)) (by intro u' hu'; simp at hu'; subst hu'; rfl) (by omega) (by unfold maxLen; omega) (by omega) (by have := HFd.out.below.size; simp at this ⊢; omega) _ rfl ?_)
          intro g6 cp6 w6 hown6 hgrow6 hat6 hlt6
          have hbut6 : But (fun b => (Value.slice af fins.length cf).ownBlock = some b) W2.drew w6 := ⟨hgrow6.os, hgrow6.tape, hgrow6.output, by have := hgrow6.size; simp at this ⊢; omega, fun b hb hn => by rw [hgrow6.block b (by simp at hb ⊢; omega) (fun e => hn e.symm), Below.heap_alloc _ _ _ hb]⟩
          obtain ⟨hF6, hr6⟩ := HFd.out.pushFin (f := false) hbut6 hown6
          have s6 := blkc hr6 1
          have f6 := blkf hr6 1
          have S6 := HCell.out _ (HFd.out.rows.but hbut6 (own_notInt HFd.out.fin (by decide)))
          have S7 := HCell.out _ hF6.rows
          have HF6 := hidd hF6
          clear hF6 hr6 hown6 hgrow6 hat6 hlt6 hbut6
          refine ⟨S6, ?_⟩
          try simp only [Act.put, List.getElem_toArray, List.getElem_cons_succ, List.getElem_cons_zero, List.setIfInBounds_toArray, List.set_cons_zero, List.set_cons_succ]
          refine tkX 16 (h := ?_)
          try simp only [Act.put, List.getElem_toArray, List.getElem_cons_succ, List.getElem_cons_zero, List.setIfInBounds_toArray, List.set_cons_zero, List.set_cons_succ]
          refine wpAnyH_one 17 (by kernel_rfl) ?_
          refine wpOp_skip (w6.setCell ⟨rb, 1, none⟩ (.slice (some ⟨g6, 0, none⟩) (fins.length + 1) cp6)) rfl (by kernel_rfl) (exec_storeBs _ _ _ _ _ rfl rb 1 (some ⟨g6, 0, none⟩) (fins.length + 1) cp6 _ (by kernel_rfl) (by kernel_rfl) s6 f6) ?_
          refine ⟨S7, ?_⟩
          try simp only [Act.put, List.getElem_toArray, List.getElem_cons_succ, List.getElem_cons_zero, List.setIfInBounds_toArray, List.set_cons_zero, List.set_cons_succ]
          refine wpAnyH_done (by kernel_rfl) ?_ _
          clear s6 f6 S6 S7
          go_wp2
          go_roundw
          case rel => exact ⟨i + 1, g3, c3, (metS K Z x (ls.length + 1)), us3, nxt ++ [toS K (metS K Z x (ls.length + 1)) x (ls.length + 1)], ns ++ [.slice (some ⟨g4, 0, none⟩) (ls.length + 1) c4], fins ++ [false], (.slice (some ⟨g6, 0, none⟩) (fins.length + 1) cp6), .slice (some ⟨g12, 0, none⟩) (nxt.length + 1) c12, R12, by go_num, rfl, HEnd.out false HFe.out, HMo.out.2, HF6.out⟩
          case measure => simp [intOf]; omega
         case oB =>
          refine wpOp_val (.slice (some ⟨W2.drew.heap.size, 0, none⟩) 1 1) (W2.drew.alloc (.cells #[.bool false] 4)) rfl (by kernel_rfl) (exec_boxBs _ _ _ _ rfl false (by kernel_rfl)) ?_
          refine ⟨HCa.out _, ?_⟩
          try simp only [Act.put, List.getElem_toArray, List.getElem_cons_succ, List.getElem_cons_zero, List.setIfInBounds_toArray, List.set_cons_zero, List.set_cons_succ]
          refine wpAnyH_one 1 (by kernel_rfl) ?_
          refine wpOp_val (.slice af fins.length cf) _ rfl (by kernel_rfl) (exec_loadBs _ _ _ _ rfl rb 1 _ (by kernel_rfl) (HBa.out _)) ?_
          refine ⟨HCa.out _, ?_⟩
          try simp only [Act.put, List.getElem_toArray, List.getElem_cons_succ, List.getElem_cons_zero, List.setIfInBounds_toArray, List.set_cons_zero, List.set_cons_succ]
          refine wpAnyH_one 15 (by kernel_rfl) ?_
          refine wpOp_wp rfl (by kernel_rfl) (wp_append_lies _ (.tmp 172) (.tmp 185) 59 rfl w.heap.size 4 ib (.bool false) 1 1 Tryd.underlying59 hib hb0 hb1 hb2 rfl (by decide) (.slice af fins.length cf) fins.length (fins.map Value.bool) (by kernel_rfl) (HFd.out.fin.alloc _) ⟨W2.drew.heap.size, 0, none⟩ 1 1 [.bool false] (by kernel_rfl) rfl (one_cell (blkc (heap_alloc_new W2.drew _) 0)) (by intro u' hu'; simp at hu'; subst hu'; rfl) (by omega) (by unfold maxLen; omega) (by omega) (by have := HFd.out.below.size; simp at this ⊢; omega) _ rfl ?_)
          intro g6 cp6 w6 hown6 hgrow6 hat6 hlt6
          have hbut6 : But (fun b => (Value.slice af fins.length cf).ownBlock = some b) W2.drew w6 := ⟨hgrow6.os, hgrow6.tape, hgrow6.output, by have := hgrow6.size; simp at this ⊢; omega, fun b hb hn => by rw [hgrow6.block b (by simp at hb ⊢; omega) (fun e => hn e.symm), Below.heap_alloc _ _ _ hb]⟩
          obtain ⟨hF6, hr6⟩ := HFd.out.pushFin (f := false) hbut6 hown6
          have s6 := blkc hr6 1
          have f6 := blkf hr6 1
          have S6 := HCell.out _ (HFd.out.rows.but hbut6 (own_notInt HFd.out.fin (by decide)))
          have S7 := HCell.out _ hF6.rows
          have HF6 := hidd hF6
          clear hF6 hr6 hown6 hgrow6 hat6 hlt6 hbut6
          refine ⟨S6, ?_⟩
          try simp only [Act.put, List.getElem_toArray, List.getElem_cons_succ, List.getElem_cons_zero, List.setIfInBounds_toArray, List.set_cons_zero, List.set_cons_succ]
          refine tkX 16 (h := ?_)
          try simp only [Act.put, List.getElem_toArray, List.getElem_cons_succ, List.getElem_cons_zero, List.setIfInBounds_toArray, List.set_cons_zero, List.set_cons_succ]
          refine wpAnyH_one 17 (by kernel_rfl) ?_
          refine wpOp_skip (w6.setCell ⟨rb, 1, none⟩ (.slice (some ⟨g6, 0, none⟩) (fins.length + 1) cp6)) rfl (by kernel_rfl) (exec_storeBs _ _ _ _ _ rfl rb 1 (some ⟨g6, 0, none⟩) (fins.length + 1) cp6 _ (by kernel_rfl) (by kernel_rfl) s6 f6) ?_
          refine ⟨S7, ?_⟩
          try simp only [Act.put, List.getElem_toArray, List.getElem_cons_succ, List.getElem_cons_zero, List.setIfInBounds_toArray, List.set_cons_zero, List.set_cons_succ]
          refine wpAnyH_done (by kernel_rfl) ?_ _
          clear s6 f6 S6 S7
          go_wp2
          go_roundw
          case rel => exact ⟨i + 1, g3, c3, (metS K Z x (ls.length + 1)), us3, nxt ++ [toS K (metS K Z x (ls.length + 1)) x (ls.length + 1)], ns ++ [.slice (some ⟨g4, 0, none⟩) (ls.length + 1) c4], fins ++ [false], (.slice (some ⟨g6, 0, none⟩) (fins.length + 1) cp6), .slice (some ⟨g12, 0, none⟩) (nxt.length + 1) c12, R12, by go_num, rfl, HEnd.out false HFe.out, HMo.out.2, HF6.out⟩
          case measure => simp [intOf]; omega
       ·have hdb : decide (d ≤ k) = false := by simpa using hdk
        have HFe : Hid (false = (decide (d ≤ k) && decide (came = head))) := by show _ = _; simp [hdk]
        go_upto_region 38 with fail
        refine wp_region_held (S := fun W' => W'.cell? ⟨gu, word.length, none⟩ = some (.int .i64 d)) (by kernel_rfl) ?_
        try simp only [Act.put, List.getElem_toArray, List.getElem_cons_succ, List.getElem_cons_zero, List.setIfInBounds_toArray, List.set_cons_zero, List.set_cons_succ]
        refine tkX 0 (h := ?_)
        try simp only [Act.put, List.getElem_toArray, List.getElem_cons_succ, List.getElem_cons_zero, List.setIfInBounds_toArray, List.set_cons_zero, List.set_cons_succ]
        refine tkX 2 (h := ?_)
        try simp only [Act.put, List.getElem_toArray, List.getElem_cons_succ, List.getElem_cons_zero, List.setIfInBounds_toArray, List.set_cons_zero, List.set_cons_succ]
        refine tkX 3 (h := ?_)
        try simp only [Act.put, List.getElem_toArray, List.getElem_cons_succ, List.getElem_cons_zero, List.setIfInBounds_toArray, List.set_cons_zero, List.set_cons_succ]
        refine tkX 4 (h := ?_)
        try simp only [Act.put, List.getElem_toArray, List.getElem_cons_succ, List.getElem_cons_zero, List.setIfInBounds_toArray, List.set_cons_zero, List.set_cons_succ]
        refine tkX 5 (h := ?_)
        try simp only [Act.put, List.getElem_toArray, List.getElem_cons_succ, List.getElem_cons_zero, List.setIfInBounds_toArray, List.set_cons_zero, List.set_cons_succ]
        refine tkX 6 (h := ?_)
        try simp only [Act.put, List.getElem_toArray, List.getElem_cons_succ, List.getElem_cons_zero, List.setIfInBounds_toArray, List.set_cons_zero, List.set_cons_succ]
        refine tkX 7 (h := ?_)
        try simp only [Act.put, List.getElem_toArray, List.getElem_cons_succ, List.getElem_cons_zero, List.setIfInBounds_toArray, List.set_cons_zero, List.set_cons_succ]
        refine tkX 8 (h := ?_)
        try simp only [Act.put, List.getElem_toArray, List.getElem_cons_succ, List.getElem_cons_zero, List.setIfInBounds_toArray, List.set_cons_zero, List.set_cons_succ]
        refine tkX 9 (h := ?_)
        try simp only [Act.put, List.getElem_toArray, List.getElem_cons_succ, List.getElem_cons_zero, List.setIfInBounds_toArray, List.set_cons_zero, List.set_cons_succ]
        refine tkS 10 (h := ?_)
        try simp only [Act.put, List.getElem_toArray, List.getElem_cons_succ, List.getElem_cons_zero, List.setIfInBounds_toArray, List.set_cons_zero, List.set_cons_succ]
        refine tkS 11 (h := ?_)
        try simp only [Act.put, List.getElem_toArray, List.getElem_cons_succ, List.getElem_cons_zero, List.setIfInBounds_toArray, List.set_cons_zero, List.set_cons_succ]
        refine tkS 12 (h := ?_)
        try simp only [Act.put, List.getElem_toArray, List.getElem_cons_succ, List.getElem_cons_zero, List.setIfInBounds_toArray, List.set_cons_zero, List.set_cons_succ]
        refine tkX 13 (h := ?_)
        try simp only [Act.put, List.getElem_toArray, List.getElem_cons_succ, List.getElem_cons_zero, List.setIfInBounds_toArray, List.set_cons_zero, List.set_cons_succ]
        refine wpAnyH_two 1 14 (by kernel_rfl) ?oA ?oB
        case oA =>
         refine wpOp_val (.slice af fins.length cf) _ rfl (by kernel_rfl) (exec_loadBs _ _ _ _ rfl rb 1 _ (by kernel_rfl) b1) ?_
         refine ⟨S0, ?_⟩
         try simp only [Act.put, List.getElem_toArray, List.getElem_cons_succ, List.getElem_cons_zero, List.setIfInBounds_toArray, List.set_cons_zero, List.set_cons_succ]
         refine wpAnyH_one 14 (by kernel_rfl) ?_
         refine wpOp_val (.slice (some ⟨W2.drew.heap.size, 0, none⟩) 1 1) (W2.drew.alloc (.cells #[.bool false] 4)) rfl (by kernel_rfl) (exec_boxBs _ _ _ _ rfl false (by kernel_rfl)) ?_
         refine ⟨HCa.out _, ?_⟩
         try simp only [Act.put, List.getElem_toArray, List.getElem_cons_succ, List.getElem_cons_zero, List.setIfInBounds_toArray, List.set_cons_zero, List.set_cons_succ]
         refine wpAnyH_one 15 (by kernel_rfl) ?_
         refine wpOp_wp rfl (by kernel_rfl) (wp_append_lies _ (.tmp 172) (.tmp 185) 59 rfl w.heap.size 4 ib (.bool false) 1 1 Tryd.underlying59 hib hb0 hb1 hb2 rfl (by decide) (.slice af fins.length cf) fins.length (fins.map Value.bool) (by kernel_rfl) (HFd.out.fin.alloc _) ⟨W2.drew.heap.size, 0, none⟩ 1 1 [.bool false] (by kernel_rfl) rfl (one_cell (blkc (heap_alloc_new W2.drew _) 0)) (by intro u' hu'; simp at hu'; subst hu'; rfl) (by omega) (by unfold maxLen; omega) (by omega) (by have := HFd.out.below.size; simp at this ⊢; omega) _ rfl ?_)
         intro g6 cp6 w6 hown6 hgrow6 hat6 hlt6
         have hbut6 : But (fun b => (Value.slice af fins.length cf).ownBlock = some b) W2.drew w6 := ⟨hgrow6.os, hgrow6.tape, hgrow6.output, by have := hgrow6.size; simp at this ⊢; omega, fun b hb hn => by rw [hgrow6.block b (by simp at hb ⊢; omega) (fun e => hn e.symm), Below.heap_alloc _ _ _ hb]⟩
         obtain ⟨hF6, hr6⟩ := HFd.out.pushFin (f := false) hbut6 hown6
         have s6 := blkc hr6 1
         have f6 := blkf hr6 1
         have S6 := HCell.out _ (HFd.out.rows.but hbut6 (own_notInt HFd.out.fin (by decide)))
         have S7 := HCell.out _ hF6.rows
         have HF6 := hidd hF6
         clear hF6 hr6 hown6 hgrow6 hat6 hlt6 hbut6
         refine ⟨S6, ?_⟩
         try simp only [Act.put, List.getElem_toArray, List.getElem_cons_succ, List.getElem_cons_zero, List.setIfInBounds_toArray, List.set_cons_zero, List.set_cons_succ]
         refine tkX 16 (h := ?_)
         try simp only [Act.put, List.getElem_toArray, List.getElem_cons_succ, List.getElem_cons_zero, List.setIfInBounds_toArray, List.set_cons_zero, List.set_cons_succ]
         refine wpAnyH_one 17 (by kernel_rfl) ?_
         refine wpOp_skip (w6.setCell ⟨rb, 1, none⟩ (.slice (some ⟨g6, 0, none⟩) (fins.length + 1) cp6)) rfl (by kernel_rfl) (exec_storeBs _ _ _ _ _ rfl rb 1 (some ⟨g6, 0, none⟩) (fins.length + 1) cp6 _ (by kernel_rfl) (by kernel_rfl) s6 f6) ?_
         refine ⟨S7, ?_⟩
         try simp only [Act.put, List.getElem_toArray, List.getElem_cons_succ, List.getElem_cons_zero, List.setIfInBounds_toArray, List.set_cons_zero, List.set_cons_succ]
         refine wpAnyH_done (by kernel_rfl) ?_ _
         clear s6 f6 S6 S7
         go_wp2
         go_roundw
         case rel => exact ⟨i + 1, g3, c3, (metS K Z x (ls.length + 1)), us3, nxt ++ [toS K (metS K Z x (ls.length + 1)) x (ls.length + 1)], ns ++ [.slice (some ⟨g4, 0, none⟩) (ls.length + 1) c4], fins ++ [false], (.slice (some ⟨g6, 0, none⟩) (fins.length + 1) cp6), .slice (some ⟨g12, 0, none⟩) (nxt.length + 1) c12, R12, by go_num, rfl, HEnd.out false HFe.out, HMo.out.2, HF6.out⟩
         case measure => simp [intOf]; omega
        case oB =>
         refine wpOp_val (.slice (some ⟨W2.drew.heap.size, 0, none⟩) 1 1) (W2.drew.alloc (.cells #[.bool false] 4)) rfl (by kernel_rfl) (exec_boxBs _ _ _ _ rfl false (by kernel_rfl)) ?_
         refine ⟨HCa.out _, ?_⟩
         try simp only [Act.put, List.getElem_toArray, List.getElem_cons_succ, List.getElem_cons_zero, List.setIfInBounds_toArray, List.set_cons_zero, List.set_cons_succ]
         refine wpAnyH_one 1 (by kernel_rfl) ?_
         refine wpOp_val (.slice af fins.length cf) _ rfl (by kernel_rfl) (exec_loadBs _ _ _ _ rfl rb 1 _ (by kernel_rfl) (HBa.out _)) ?_
         refine ⟨HCa.out _, ?_⟩
         try simp only [Act.put, List.getElem_toArray, List.getElem_cons_succ, List.getElem_cons_zero, List.setIfInBounds_toArray, List.set_cons_zero, List.set_cons_succ]
         refine wpAnyH_one 15 (by kernel_rfl) ?_
         refine wpOp_wp rfl (by kernel_rfl) (wp_append_lies _ (.tmp 172) (.tmp 185) 59 rfl w.heap.size 4 ib (.bool false) 1 1 Tryd.underlying59 hib hb0 hb1 hb2 rfl (by decide) (.slice af fins.length cf) fins.length (fins.map Value.bool) (by kernel_rfl) (HFd.out.fin.alloc _) ⟨W2.drew.heap.size, 0, none⟩ 1 1 [.bool false] (by kernel_rfl) rfl (one_cell (blkc (heap_alloc_new W2.drew _) 0)) (by intro u' hu'; simp at hu'; subst hu'; rfl) (by omega) (by unfold maxLen; omega) (by omega) (by have := HFd.out.below.size; simp at this ⊢; omega) _ rfl ?_)
         intro g6 cp6 w6 hown6 hgrow6 hat6 hlt6
         have hbut6 : But (fun b => (Value.slice af fins.length cf).ownBlock = some b) W2.drew w6 := ⟨hgrow6.os, hgrow6.tape, hgrow6.output, by have := hgrow6.size; simp at this ⊢; omega, fun b hb hn => by rw [hgrow6.block b (by simp at hb ⊢; omega) (fun e => hn e.symm), Below.heap_alloc _ _ _ hb]⟩
         obtain ⟨hF6, hr6⟩ := HFd.out.pushFin (f := false) hbut6 hown6
         have s6 := blkc hr6 1
         have f6 := blkf hr6 1
         have S6 := HCell.out _ (HFd.out.rows.but hbut6 (own_notInt HFd.out.fin (by decide)))
         have S7 := HCell.out _ hF6.rows
         have HF6 := hidd hF6
         clear hF6 hr6 hown6 hgrow6 hat6 hlt6 hbut6
         refine ⟨S6, ?_⟩
         try simp only [Act.put, List.getElem_toArray, List.getElem_cons_succ, List.getElem_cons_zero, List.setIfInBounds_toArray, List.set_cons_zero, List.set_cons_succ]
         refine tkX 16 (h := ?_)
         try simp only [Act.put, List.getElem_toArray, List.getElem_cons_succ, List.getElem_cons_zero, List.setIfInBounds_toArray, List.set_cons_zero, List.set_cons_succ]
         refine wpAnyH_one 17 (by kernel_rfl) ?_
         refine wpOp_skip (w6.setCell ⟨rb, 1, none⟩ (.slice (some ⟨g6, 0, none⟩) (fins.length + 1) cp6)) rfl (by kernel_rfl) (exec_storeBs _ _ _ _ _ rfl rb 1 (some ⟨g6, 0, none⟩) (fins.length + 1) cp6 _ (by kernel_rfl) (by kernel_rfl) s6 f6) ?_
         refine ⟨S7, ?_⟩
         try simp only [Act.put, List.getElem_toArray, List.getElem_cons_succ, List.getElem_cons_zero, List.setIfInBounds_toArray, List.set_cons_zero, List.set_cons_succ]
         refine wpAnyH_done (by kernel_rfl) ?_ _
         clear s6 f6 S6 S7
         go_wp2
         go_roundw
         case rel => exact ⟨i + 1, g3, c3, (metS K Z x (ls.length + 1)), us3, nxt ++ [toS K (metS K Z x (ls.length + 1)) x (ls.length + 1)], ns ++ [.slice (some ⟨g4, 0, none⟩) (ls.length + 1) c4], fins ++ [false], (.slice (some ⟨g6, 0, none⟩) (fins.length + 1) cp6), .slice (some ⟨g12, 0, none⟩) (nxt.length + 1) c12, R12, by go_num, rfl, HEnd.out false HFe.out, HMo.out.2, HF6.out⟩
         case measure => simp [intOf]; omega
    ·have hizz : ¬ (i : Int) < (Z.length : Int) := by omega
     obtain rfl : i = Z.length := by have := HG.out.le; omega
     have hZp : 0 < Z.length := by
      rcases HF.out.outer.2 with ⟨h, _⟩ | _
      ·cases h
      ·have h1 : Z ≠ [] := by
        rw [← HG.out.bf]
        obtain ⟨r, hr⟩ := bfs_pre (K.nexts (ls.length + 1)) Z.length 0 [x0]
        rw [hr]; simp
       exact List.length_pos_iff.2 h1
     obtain ⟨hbf, hlang, hrows⟩ := HG.out.done hZp
     have hfl : fins.length = Z.length := HG.out.flen
     have hnl : nxt.length = fins.length := HG.out.nlen.trans HG.out.flen.symm
     obtain ⟨hhl, hraw⟩ := HF.out.raw hnl (by omega) (by omega) (by omega) hrows
     have HLg := hidd hlang
     have HHl := hidd hhl
     have HRw := hidd hraw
     obtain ⟨af, cf, hvf⟩ : ∃ a c, vf = .slice a fins.length c := by obtain ⟨a, c, h, _⟩ := hraw.fin; exact ⟨a, c, h⟩
     obtain ⟨an, cn, hvn⟩ : ∃ a c, vn = .slice a nxt.length c := by obtain ⟨a, c, h, _⟩ := hraw.nx; exact ⟨a, c, h⟩
     subst hvf hvn
     have r0 : wr.cell? ⟨rb, 0, none⟩ = some (.slice al ls.length cl) := blkc HF.out.rawb 0
     have r1 : wr.cell? ⟨rb, 1, none⟩ = some (.slice af fins.length cf) := blkc HF.out.rawb 1
     have r2 : wr.cell? ⟨rb, 2, none⟩ = some (.slice an nxt.length cn) := blkc HF.out.rawb 2
     clear hbf hlang hrows hfl hnl hhl hraw hZp
     go_wp2_with fail
     refine (told_any hC _ _ _ ls fins nxt _ HHl.out HRw.out).mono ?_
     rintro e w20 ⟨L, hL, hb20, hcase⟩
     have HL : Hid (sysL.Least ls.length ls ((fzK word ls k head).lang (ls.length + 1) (firstS word.length k)) L) := by
      show Sys.Least _ _ _ _ _
      rw [HK.out, Hx0.out, ← HLg.out]; exact hL
     have hres := blko HF.out.res hb20
     have HRs := hidd hres
     have HB20 := hidd (HF.out.below.trans (hb20.mono HF.out.below.size))
     have t0 : w20.cell? ⟨w.heap.size, 0, none⟩ = some (.slice none 0 0) := blkc hres 0
     have f0 := blkf hres 0
     have hset : ∀ v : Value, (w20.setCell ⟨w.heap.size, 0, none⟩ v).cell? ⟨w.heap.size, 0, none⟩ = some v := by
      intro v
      have := blk_setk HRs.out 0 v
      rw [blkc this 0]
      simp
     have HSet := hidd hset
     have hbs : ∀ v : Value, Below w.heap.size w (w20.setCell ⟨w.heap.size, 0, none⟩ v) := fun v => HB20.out.trans (((But.refl (fun b => b = w.heap.size) w20).set (w.heap.size) 0 _ rfl).below HB20.out.size (fun j hj e => by omega))
     have HBs := hidd hbs
     have hwz : w.heap.size ≤ wr.heap.size := HF.out.below.size
     clear hL hb20 hres hset hbs
     rcases hcase with ⟨hgt, rfl⟩ | ⟨hle, v, l, hvl, rfl, hdm⟩
     ·go_wp2
      refine bodyPost_ret (v := .tuple #[.agg #[.slice none 0 0], .int .i64 11]) (by simp [results, Tryd.results8, go_sem, HSet.out]) rfl ?_
      exact ⟨ls, L, HRi.out, HMe.out, HL.out, HBs.out _, Or.inl ⟨hgt, rfl⟩⟩
     ·have HDm : Hid (∀ u : Value, DfaM (w20.setCell ⟨w.heap.size, 0, none⟩ u) w.heap.size v l) := by
       show ∀ _, _
       intro u
       refine (hdm.mono hwz).congr fun b cs t ht _ hh => ?_
       rw [heap_set_other w20 w.heap.size 0 _ b (by
        rintro rfl
        rw [HRs.out] at hh
        simp only [Option.some.injEq, Obj.cells.injEq] at hh
        rcases ht with rfl | rfl
        ·exact absurd hh.2.1 (by decide)
        ·exact absurd hh.2.1 (by decide))]
       exact hh
      obtain ⟨av, cv, hvv⟩ : ∃ a c, v = .slice a l.length c := by
       rcases hdm.row.2 with ⟨h, h0⟩ | ⟨g7, c7, cur7, h, _⟩
       ·exact ⟨none, 0, by rw [h, h0]⟩
       ·exact ⟨_, c7, h⟩
      subst hvv
      clear hdm
      go_wp2
      refine bodyPost_ret (v := .tuple #[.agg #[.slice av l.length cv], .int .i64 0]) (by simp [results, Tryd.results8, go_sem, HSet.out]) rfl ?_
      exact ⟨ls, L, HRi.out, HMe.out, HL.out, HBs.out _, Or.inr ⟨hle, _, l, hvl, rfl, HDm.out _⟩⟩
end Go.Proofs.YtoinajfliogcdaaDoor
