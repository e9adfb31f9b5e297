import Derived.Test.YtoinajfliogcdaaDoorNearJ35
import Derived.Test.YtoinajfliogcdaaDoorNearJ36
import Derived.Test.YtoinajfliogcdaaDoorNearJ32
import Derived.Test.YtoinajfliogcdaaDoorNearJ38
import Derived.Test.YtoinajfliogcdaaDoorNearJ12
import Derived.Test.YtoinajfliogcdaaDoorNearJ34
import Derived.Deep.Onto
import Derived.Test.YtoinajfliogcdaaDoorNearJ21
import Derived.Test.YtoinajfliogcdaaDoorNearJ01
import Derived.Test.YtoinajfliogcdaaDoorNearJ02
namespace Go.Proofs.YtoinajfliogcdaaDoor
open Go Go.RowKit
set_option linter.unusedVariables false
set_option linter.unusedSimpArgs false
set_option maxRecDepth 100000

theorem FgN.aut {K : Kaut Near} {S : Nat} {x0 : Near} {Z : List Near} {nxt : List (List Nat)} {fins : List Bool} (h : FgN K S x0 Z.length Z nxt fins) : IsBfs (K.nexts S) x0 Z ∧ ∀ q, q < Z.length → (autR fins nxt).lang S q = (K.aut Z x0).lang S q := by
 have hb : IsBfs (K.nexts S) x0 Z := ⟨_, h.bf, Nat.le_refl _⟩
 have hto : ∀ q a, q < Z.length → a < S → (nxt.getD q []).getD a 0 = ix Z (K.step (Z.getD q x0) a) := by
  intro q a hq ha
  rw [h.nx q hq]
  simp [toN, ha]
 refine ⟨hb, fun q hq => ?_⟩
 refine (Aut.lang_congr (n := Z.length) (K.shut hb) (fun q hq => ?_) (fun q a hq ha => ?_) hq).symm
 ·exact (h.fin q hq).symm
 ·exact (hto q a hq ha).symm
theorem own_monoN {w : World} {base base' e n size : Nat} {v : Value} {xs : List Value} (h : w.ownsRow base e size v n xs) (hb : base' ≤ base) : w.ownsRow base' e size v n xs := by
 refine ⟨h.1, ?_⟩
 rcases h.2 with h1 | ⟨g, cap, cur, h1, h2, h3⟩
 ·exact Or.inl h1
 ·exact Or.inr ⟨g, cap, cur, h1, Nat.le_trans hb h2, h3⟩
theorem DfaM.lower {W : World} {base base' : Nat} {v : Value} {l : List MSt} (h : DfaM W base v l) (hb : base' ≤ base) : DfaM W base' v l := ⟨own_monoN h.row hb, fun s hs => own_monoN (h.arcs s hs) hb, h.apart⟩
def LnPost (word ls : List Int) (k head : Nat) (w : World) (e : Ending) (w' : World) : Prop :=
 Below w.heap.size w w' ∧ ((e = .returned (.tuple #[.agg #[.slice none 0 0], .int .i64 11]) ∧ ∀ L, sysL.Least ls.length ls ((nrK word ls k head).lang (ls.length + 1) (firstI word.length k)) L → 256 < L.length) ∨
  ∃ v l, sysL.Least ls.length ls ((nrK word ls k head).lang (ls.length + 1) (firstI word.length k)) (l.map Prod.snd) ∧ l.length ≤ 256 ∧ e = .returned (.tuple #[.agg #[v], .int .i64 0]) ∧ DfaM w' w.heap.size v l)
theorem ls_start (w : World) (cw ca : Array Value) :
  let W := ((w.alloc (.cells cw 77)).alloc (.cells ca 80)).alloc (.cells #[.slice none 0 0] 27)
  W.heap[w.heap.size]? = some (.cells cw 77) ∧ W.heap[w.heap.size + 1]? = some (.cells ca 80) ∧ W.heap[w.heap.size + 1 + 1]? = some (.cells #[.slice none 0 0] 27) ∧ Below w.heap.size w W := by
 have hz1 : (w.alloc (.cells cw 77)).heap.size = w.heap.size + 1 := by simp
 have hz2 : ((w.alloc (.cells cw 77)).alloc (.cells ca 80)).heap.size = w.heap.size + 1 + 1 := by simp
 refine ⟨?_, ?_, ?_, (((Below.refl _ _).alloc (Nat.le_refl _) _).alloc (by rw [hz1]; omega) _).alloc (by rw [hz2]; omega) _⟩
 ·rw [Below.heap_alloc _ _ _ (by rw [hz2]; omega), Below.heap_alloc _ _ _ (by rw [hz1]; omega)]; exact heap_alloc_new w _
 ·rw [Below.heap_alloc _ _ _ (by rw [hz2]; omega), ← hz1]; exact heap_alloc_new _ _
 ·rw [← hz2]; exact heap_alloc_new _ _
set_option maxHeartbeats 8000000 in
theorem least_near (v a0 a1 a2 a3 : Value) (word ls : List Int) (k head : Nat) (w : World) (hl : word.length ≤ 30) (hll : ls.length ≤ 30) (hk : k ≤ 2) (hh : head ≤ word.length) (hz : ∀ z ∈ word, 0 ≤ z) (hv : HoldI w v word) (h0 : HoldI w a0 ls) (h1 : HoldI w a1 (nat2 (List.range ls.length))) (h2 : HoldI w a2 (ls ++ [-1])) (h3 : HoldI w a3 (cntA ls.length)) :
  Calls Tryd.prog 43 #[.agg (wkA (firstI word.length k) (folV v k head) (finV v k head)), .agg #[a0, a1, a2, a3]] w (LnPost word ls k head w) := by
 have hS := ls_start w (wkA (firstI word.length k) (folV v k head) (finV v k head)) #[a0, a1, a2, a3]
 dsimp only at hS
 obtain ⟨s1, s2, s3, s4⟩ := hS
 have H0 := hidd h0
 have H1 := hidd h1
 have H2 := hidd h2
 have H3 := hidd h3
 have HV := hidd hv
 obtain ⟨ad0, c0, rfl, -⟩ := h0
 obtain ⟨ad1, c1, rfl, -⟩ := h1
 obtain ⟨ad2, c2, rfl, -⟩ := h2
 obtain ⟨ad3, c3, rfl, -⟩ := h3
 rw [nat2_len, List.length_range] at *
 rw [List.length_append, List.length_singleton] at *
 rw [cntA_len] at *
 have w0 := blkc s1 0
 have w1 := blkc s1 1
 have w2 := blkc s1 2
 have w3 := blkc s1 3
 have w4 := blkc s1 4
 have w5 := blkc s1 5
 have w6 := blkc s1 6
 have b0 := blkc s2 0
 have b1 := blkc s2 1
 have b2 := blkc s2 2
 have b3 := blkc s2 3
 have HS4 := hidd s4
 have HS3 := hidd s3
 have HZ := hidd hz
 clear s1 s2 s3 s4 hv hz
 go_enter Tryd.func43, Tryd.ntmps43
 go_upto_region 1 with fail
 generalize ((w.alloc (.cells (wkA (firstI word.length k) (folV v k head) (finV v k head)) 77)).alloc (.cells #[.slice ad0 ls.length c0, .slice ad1 ls.length c1, .slice ad2 (ls.length + 1) c2, .slice ad3 (ls.length + 1) c3] 80)).alloc (.cells #[.slice none 0 0] 27) = W1 at *
 have HTb := hidd (tableOf_any v (.slice ad0 ls.length c0) (.slice ad1 ls.length c1) (.slice ad2 (ls.length + 1) c2) (.slice ad3 (ls.length + 1) c3) word ls k head W1 hl hll hk hh HZ.out (HV.out.below HS4.out) (H2.out.below HS4.out) ⟨_, _, _, rfl⟩ ⟨_, _, _, rfl⟩ ⟨_, _, _, rfl⟩)
 generalize hx0 : firstI word.length k = x0 at *
 go_wp2_with fail
 refine HTb.out.mono ?_
 rintro e W2 ⟨vrows, vfin, Z, nxt, bs, l, rfl, hG, hL, hR, hF, hb2, hZ⟩
 rw [hx0] at hG
 have hZ0 : 0 < Z.length := by
  have := hG.bf
  obtain ⟨r, hr⟩ := bfs_pre ((nrK word ls k head).nexts (ls.length + 1)) Z.length 0 [x0]
  rw [← this, hr]
  simp
 have hln : l.length = Z.length := by
  have := congrArg List.length hL
  rw [List.length_map, List.length_map, hG.nlen] at this
  exact this
 have hbn : bs.length = Z.length := hG.flen
 obtain ⟨adr, cpr, rfl⟩ := own_slk hR.row
 obtain ⟨adf, cpf, rfl⟩ := own_slk hF
 have HG := hidd hG
 have HL := hidd hL
 have HR := hidd hR
 have HF := hidd hF
 have HB2 := hidd (HS4.out.trans (hb2.mono HS4.out.size))
 have HR2 := hidd (blko HS3.out hb2)
 have HW1 := hidd hb2.size
 have hdn := hG.done hZ0
 have HSn : Hid (∀ q, q < l.length → (nxt.getD q []).length = ls.length + 1 ∧ ∀ a, a < ls.length + 1 → (nxt.getD q []).getD a 0 < l.length) := fun q hq => by
  have := hdn.2.2 q (by omega)
  rw [hbn, ← hln] at this
  exact this
 have HLg := hidd hdn.2.1
 have hbl : bs.length = l.length := by omega
 have HBl := hidd hbl
 have HLn := hidd hln
 have hl0 : 0 < l.length := by omega
 have hlZ : l.length ≤ 1114112 := by omega
 have hnew := heap_alloc_new W2 (.cells #[.slice ad0 ls.length c0, .slice ad1 ls.length c1, .slice ad2 (ls.length + 1) c2, .slice ad3 (ls.length + 1) c3, .slice adr l.length cpr, .slice adf bs.length cpf, nilS, nilS] 127)
 have hb3 : Below W2.heap.size W2 (W2.alloc (.cells #[.slice ad0 ls.length c0, .slice ad1 ls.length c1, .slice ad2 (ls.length + 1) c2, .slice ad3 (ls.length + 1) c3, .slice adr l.length cpr, .slice adf bs.length cpf, nilS, nilS] 127)) := (Below.refl _ _).alloc (Nat.le_refl _) _
 have HPt := hidd (part_any W1.heap.size W2.heap.size 0 cpr 0 cpf adr adf (.slice ad0 ls.length c0) (.slice ad1 ls.length c1) (.slice ad2 (ls.length + 1) c2) (.slice ad3 (ls.length + 1) c3) l bs nxt (ls.length + 1) (W2.alloc (.cells #[.slice ad0 ls.length c0, .slice ad1 ls.length c1, .slice ad2 (ls.length + 1) c2, .slice ad3 (ls.length + 1) c3, .slice adr l.length cpr, .slice adf bs.length cpf, nilS, nilS] 127)) hnew (hR.congr fun b cs t _ _ hh => blko hh hb3) (own_congr hF (fun b hk => hb3.block b (Array.getElem?_eq_some_iff.1 (own_blk hF hk).2.choose_spec).1)) hL hbl HSn.out (by omega) hl0 hlZ (Nat.le_trans HW1.out hb3.size))
 have HB3 := hidd (HB2.out.trans (hb3.mono HB2.out.size))
 have HR3 := hidd (blko HR2.out hb3)
 have htb : w.heap.size + 1 + 1 < W2.heap.size := (Array.getElem?_eq_some_iff.1 HR2.out).1
 clear hG hL hR hF hb2 HTb w0 w1 w2 w3 w4 w5 w6 b0 b1 b2 b3 HS3 hln hbn hbl hdn hnew hb3 HB2 HR2 HR HF
 go_upto_region 4 with fail
 generalize (W2.alloc (.cells #[.slice ad0 ls.length c0, .slice ad1 ls.length c1, .slice ad2 (ls.length + 1) c2, .slice ad3 (ls.length + 1) c3, .slice adr l.length cpr, .slice adf bs.length cpf, nilS, nilS] 127)) = W3 at *
 obtain ⟨tb, htb2⟩ : ∃ tb, W2.heap.size = tb := ⟨_, rfl⟩
 rw [htb2] at HPt htb
 simp only [htb2]
 clear htb2
 go_wp2_with fail
 refine HPt.out.mono ?_
 rintro e W4 hpt
 rcases hpt with ⟨rfl, bx, g3, c3', vpts, cl, us, parts, hP, hOK, hSt, hcl, hcz, hpl⟩ | ⟨rfl, hbut, κ, c, hco, hon, hc⟩
 ·have hb4 : Below w.heap.size w W4 := HB3.out.trans (hP.but.below HB3.out.size (fun j hj e => by omega))
  have hr4 : W4.heap[w.heap.size + 1 + 1]? = some (.cells #[.slice none 0 0] 27) := by
   rw [hP.but.block _ (Array.getElem?_eq_some_iff.1 HR3.out).1 (by omega)]
   exact HR3.out
  obtain ⟨gp, cp, gf, cf, hI⟩ := dfIn_of W3 W4 W1.heap.size tb bx g3 c3' c2 ad2 _ _ _ _ _ _ l bs cl us parts nxt ls hP hOK hcl hcz hpl HL.out HBl.out HSn.out hll hl0 hlZ (H3.out.below hb4)
  have HDf := hidd (dfa_any tb gp cp gf cf g3 c3' l.length _ _ _ _ _ bs cl parts nxt ls W4 hI hOK hSt hcl HBl.out (fun z hz => (hcz z hz).1) hpl HSn.out hll hl0 hlZ (H0.out.below hb4) (H1.out.below hb4))
  have HB4 := hidd hb4
  have HR4 := hidd hr4
  clear hP hOK hSt hcl hcz hpl hI hb4 hr4 HPt HB3 HR3
  go_wp2_with fail
  refine HDf.out.mono ?_
  rintro e W5 ⟨v5, D, rfl, hM, hLs, hb5, hDl, ad5, c5, rfl⟩
  have hb6 : Below W5.heap.size W5 (W5.alloc (.cells #[.slice ad5 D.length c5] 27)) := (Below.refl _ _).alloc (Nat.le_refl _) _
  have hn6 := heap_alloc_new W5 (.cells #[.slice ad5 D.length c5] 27)
  have hbw6 : Below w.heap.size w (W5.alloc (.cells #[.slice ad5 D.length c5] 27)) := (HB4.out.trans (hb5.mono HB4.out.size)).trans (hb6.mono (Nat.le_trans HB4.out.size hb5.size))
  have hr6 := blko (blko HR4.out hb5) hb6
  have c6 : (W5.alloc (.cells #[.slice ad5 D.length c5] 27)).cell? ⟨W5.heap.size, 0, none⟩ = some (.slice ad5 D.length c5) := blkc hn6 0
  have rc := blkc hr6 0
  have fc := blkf hr6 0
  have hset := fun u => blk_setk hr6 0 u
  rw [HLg.out] at hLs
  have HLs := hidd hLs
  have HM : Hid (DfaM (W5.alloc (.cells #[.slice ad5 D.length c5] 27)) w.heap.size (.slice ad5 D.length c5) D) := (hM.lower HB4.out.size).below hb6
  have HBw6 := hidd hbw6
  have HSet := hidd hset
  have HR6 := hidd hr6
  clear hM hLs hb5 hb6 hn6 hbw6 hr6 hset HB4 HR4 HDf
  have HEnd : Hid (∀ u, ((W5.alloc (.cells #[.slice ad5 D.length c5] 27)).setCell ⟨w.heap.size + 1 + 1, 0, none⟩ u).cell? ⟨w.heap.size + 1 + 1, 0, none⟩ = some u ∧ Below w.heap.size w ((W5.alloc (.cells #[.slice ad5 D.length c5] 27)).setCell ⟨w.heap.size + 1 + 1, 0, none⟩ u) ∧ DfaM ((W5.alloc (.cells #[.slice ad5 D.length c5] 27)).setCell ⟨w.heap.size + 1 + 1, 0, none⟩ u) w.heap.size (.slice ad5 D.length c5) D) := fun u => by
   refine ⟨?_, HBw6.out.trans (((But.refl (fun b => b = w.heap.size + 1 + 1) _).set (w.heap.size + 1 + 1) 0 _ rfl).below HBw6.out.size (fun j hj e => by omega)), HM.out.congr fun b cs t ht _ hh => ?_⟩
   ·rw [blkc (HSet.out u) 0]; simp
   ·rw [heap_set_other _ (w.heap.size + 1 + 1) 0 _ b (by
     rintro rfl
     have hr := HR6.out
     rw [hr] at hh
     simp only [Option.some.injEq, Obj.cells.injEq] at hh
     rcases ht with rfl | rfl
     ·exact absurd hh.2.1 (by decide)
     ·exact absurd hh.2.1 (by decide))]
    exact hh
  clear HM HBw6 HSet HR6
  generalize hDn : D.length = N at *
  by_cases hN : 256 < N
  ·have hNz : (256 : Int) < (N : Int) := by omega
   have dz : decide ((256 : Int) < (N : Int)) = true := decide_eq_true hNz
   go_wp2_with fail
   obtain ⟨e1, e2, -⟩ := HEnd.out (.slice none 0 0)
   refine bodyPost_ret (v := .tuple #[.agg #[.slice none 0 0], .int .i64 11]) (by simp [results, Tryd.results43, go_sem, e1]) rfl ?_
   refine ⟨e2, Or.inl ⟨rfl, fun L hL => ?_⟩⟩
   rw [hx0] at hL
   have e9 := congrArg List.length (Sys.Least.uniq hL HLs.out)
   rw [List.length_map, hDn] at e9
   omega
  ·have hNz : ¬ (256 : Int) < (N : Int) := by omega
   have dz : decide ((256 : Int) < (N : Int)) = false := decide_eq_false hNz
   go_upto_region 10 with fail
   refine wp_region_list ?_
   refine wpL_loadDfa rfl _ rfl W5.heap.size ad5 N c5 (by kernel_rfl) c6 ?_
   refine wpL_storeDfa rfl _ _ rfl (w.heap.size + 1 + 1) ad5 N c5 (.slice none 0 0) (by kernel_rfl) (by kernel_rfl) rc fc ?_
   go_wp2_with fail
   obtain ⟨e1, e2, e3⟩ := HEnd.out (.slice ad5 N c5)
   refine bodyPost_ret (v := .tuple #[.agg #[.slice ad5 N c5], .int .i64 0]) (by simp [results, Tryd.results43, go_sem, e1]) rfl ?_
   refine ⟨e2, Or.inr ⟨_, D, ?_, by omega, rfl, e3⟩⟩
   rw [hx0]
   exact HLs.out
 ·have hb4 : Below w.heap.size w W4 := HB3.out.trans (hbut.below HB3.out.size (fun j hj e => by omega))
  have hr4 : W4.heap[w.heap.size + 1 + 1]? = some (.cells #[.slice none 0 0] 27) := by
   rw [hbut.block _ (Array.getElem?_eq_some_iff.1 HR3.out).1 (by omega)]
   exact HR3.out
  have rc := blkc hr4 0
  have fc := blkf hr4 0
  have HMany : Hid (∀ L, sysL.Least ls.length ls ((nrK word ls k head).lang (ls.length + 1) x0) L → 256 < L.length) := fun L hL => by
   obtain ⟨f1, f2⟩ := HG.out.aut
   have hzl := HLn.out
   have := Kaut.many f1 hL (κ := κ) (c := c) (fun q r hq hr e => hco q r (by omega) (by omega) (by rw [f2 q hq, f2 r hr]; exact e)) (fun y hy => by
    obtain ⟨q, hq, e⟩ := hon y hy
    exact ⟨q, by omega, e⟩)
   omega
  have HEnd : Hid ((W4.setCell ⟨w.heap.size + 1 + 1, 0, none⟩ (.slice none 0 0)).cell? ⟨w.heap.size + 1 + 1, 0, none⟩ = some (.slice none 0 0) ∧ Below w.heap.size w (W4.setCell ⟨w.heap.size + 1 + 1, 0, none⟩ (.slice none 0 0))) := by
   refine ⟨?_, hb4.trans (((But.refl (fun b => b = w.heap.size + 1 + 1) _).set (w.heap.size + 1 + 1) 0 _ rfl).below hb4.size (fun j hj e => by omega))⟩
   rw [blkc (blk_setk hr4 0 _) 0]; simp
  clear hb4 hr4 hbut hco hon HPt HB3 HR3
  go_wp2_with fail
  obtain ⟨e1, e2⟩ := HEnd.out
  refine bodyPost_ret (v := .tuple #[.agg #[.slice none 0 0], .int .i64 11]) (by simp [results, Tryd.results43, go_sem, e1]) rfl ?_
  refine ⟨e2, Or.inl ⟨rfl, fun L hL => ?_⟩⟩
  rw [hx0] at hL
  exact HMany.out L hL
end Go.Proofs.YtoinajfliogcdaaDoor

namespace Go.Proofs.YtoinajfliogcdaaDoor
open Go Go.RowKit
set_option linter.unusedVariables false
set_option maxRecDepth 100000
set_option linter.unusedSimpArgs false

def LeastC : Prop := ∀ (vl vf vn : Value) (ls : List Int) (fins : List Bool) (nxt : List (List Nat)) (w : World), HoldI w vl ls → RawOK w vf vn fins nxt (ls.length + 1) → Calls Tryd.prog 78 #[.agg #[vl, vf, vn]] w (LsPost w ls fins nxt)
def TdPost (w : World) (ls : List Int) (fins : List Bool) (nxt : List (List Nat)) (e : Ending) (w' : World) : Prop :=
 ∃ L, sysL.Least ls.length ls ((autR fins nxt).lang (ls.length + 1) 0) L ∧ Below w.heap.size w w' ∧
  ((256 < L.length ∧ e = .returned (.tuple #[.agg #[.slice none 0 0], .int .i64 11])) ∨ (L.length ≤ 256 ∧ ∃ v l, l.map Prod.snd = L ∧ e = .returned (.tuple #[.agg #[v], .int .i64 0]) ∧ DfaM w' w.heap.size v l))
theorem DfaM.mono {W : World} {base base' : Nat} {v : Value} {l : List MSt} (h : DfaM W base v l) (hb : base' ≤ base) : DfaM W base' v l := ⟨h.row.mono hb, fun s hs => (h.arcs s hs).mono hb, h.apart⟩
set_option maxHeartbeats 4000000 in
theorem told_any (hC : LeastC) (vl vf vn : Value) (ls : List Int) (fins : List Bool) (nxt : List (List Nat)) (w : World) (hls : HoldI w vl ls) (hraw : RawOK w vf vn fins nxt (ls.length + 1)) :
  Calls Tryd.prog 37 #[.agg #[vl, vf, vn]] w (TdPost w ls fins nxt) := by
 obtain ⟨w1, hw1⟩ : ∃ w1, w1 = w.alloc (.cells #[vl, vf, vn] 62) := ⟨_, rfl⟩
 obtain ⟨w2, hw2⟩ : ∃ w2, w2 = w1.alloc (.cells #[.slice none 0 0] 27) := ⟨_, rfl⟩
 have hs1 : w1.heap.size = w.heap.size + 1 := by rw [hw1]; simp
 have hs2 : w2.heap.size = w.heap.size + 2 := by rw [hw2]; simp [hs1]
 have HB2 : Hid (Below w.heap.size w w2) := by
  rw [hw2, hw1]
  exact ((Below.refl _ _).alloc (Nat.le_refl _) _).alloc (by simp) _
 have HK : Hid (w2.heap[w.heap.size]? = some (.cells #[vl, vf, vn] 62) ∧ w2.heap[w.heap.size + 1]? = some (.cells #[.slice none 0 0] 27)) := by
  rw [hw2, hw1]
  exact box_two w _ _
 have HLS := hidd (hls.below HB2.out)
 have HR := hidd (hraw.below HB2.out)
 have Hs2 := hidd hs2
 clear hls hraw
 have c0 : w2.cell? ⟨w.heap.size, 0, none⟩ = some vl := blkc HK.out.1 0
 have c1 : w2.cell? ⟨w.heap.size, 1, none⟩ = some vf := blkc HK.out.1 1
 have c2 : w2.cell? ⟨w.heap.size, 2, none⟩ = some vn := blkc HK.out.1 2
 obtain ⟨ad, cp, hvl⟩ : ∃ ad cp, vl = .slice ad ls.length cp := by obtain ⟨ad, cp, h, _⟩ := HLS.out; exact ⟨ad, cp, h⟩
 obtain ⟨adf, cpf, hvf⟩ : ∃ ad cp, vf = .slice ad fins.length cp := by obtain ⟨ad, cp, h, _⟩ := HR.out.fin; exact ⟨ad, cp, h⟩
 obtain ⟨adn, cpn, hvn⟩ : ∃ ad cp, vn = .slice ad nxt.length cp := by obtain ⟨ad, cp, h, _⟩ := HR.out.nx; exact ⟨ad, cp, h⟩
 have HE : Hid (w2 = (w.alloc (.cells #[vl, vf, vn] 62)).alloc (.cells #[.slice none 0 0] 27)) := by show _ = _; rw [hw2, hw1]
 clear hw1 hw2
 subst hvl hvf hvn
 have Hs := hidd hs2
 clear hs1 hs2
 go_enter Tryd.func37, Tryd.ntmps37
 go_upto_region 1 with fail
 rw [← HE.out]
 go_wp2_with fail
 refine (hC _ _ _ ls fins nxt _ HLS.out HR.out).mono ?_
 rintro e w3 ⟨v, l, rfl, hD, hL, hl4, hb3⟩
 have HD := hidd (hD.mono (base' := w.heap.size) (by rw [Hs.out]; omega))
 have HL := hidd hL
 have HB3 := hidd (HB2.out.trans (hb3.mono (by rw [Hs.out]; omega)))
 have hk1 := blko HK.out.2 hb3
 have HK3 := hidd hk1
 have hsz : w.heap.size + 2 ≤ w3.heap.size := by have := hb3.size; rw [Hs.out] at this; exact this
 have Hsz := hidd hsz
 obtain ⟨adv, cpv, hv⟩ : ∃ ad cp, v = .slice ad l.length cp := by
  rcases hD.row.2 with ⟨h, h0⟩ | ⟨g7, c7, cur7, h, _⟩
  ·exact ⟨none, 0, by rw [h, h0]⟩
  ·exact ⟨_, c7, h⟩
 subst hv
 clear hD hL hb3 hk1 hsz
 have HKn : Hid ((w3.alloc (.cells #[.slice adv l.length cpv] 27)).heap[w3.heap.size]? = some (.cells #[.slice adv l.length cpv] 27) ∧ (w3.alloc (.cells #[.slice adv l.length cpv] 27)).heap[w.heap.size + 1]? = some (.cells #[.slice none 0 0] 27)) := by
  refine ⟨heap_alloc_new _ _, ?_⟩
  rw [Below.heap_alloc _ _ _ (by have := Hsz.out; omega)]
  exact HK3.out
 have HB4 : Hid (Below w.heap.size w (w3.alloc (.cells #[.slice adv l.length cpv] 27))) := HB3.out.alloc (by have := Hsz.out; omega) _
 have HD4 : Hid (DfaM (w3.alloc (.cells #[.slice adv l.length cpv] 27)) w.heap.size (.slice adv l.length cpv) l) := HD.out.below ((Below.refl _ _).alloc (Nat.le_refl _) _)
 go_upto_region 2 with fail
 generalize w3.alloc (.cells #[.slice adv l.length cpv] 27) = w4 at *
 clear c0 c1 c2
 have d0 : w4.cell? ⟨w3.heap.size, 0, none⟩ = some (.slice adv l.length cpv) := blkc HKn.out.1 0
 have r0 : w4.cell? ⟨w.heap.size + 1, 0, none⟩ = some (.slice none 0 0) := blkc HKn.out.2 0
 have f0 := blkf HKn.out.2 0
 have hset : ∀ x : Value, (w4.setCell ⟨w.heap.size + 1, 0, none⟩ x).cell? ⟨w.heap.size + 1, 0, none⟩ = some x := by
  intro x
  have := blk_setk HKn.out.2 0 x
  rw [blkc this 0]
  simp
 have HSet := hidd hset
 have hbs : ∀ x : Value, Below w.heap.size w (w4.setCell ⟨w.heap.size + 1, 0, none⟩ x) := fun x => HB4.out.trans (((But.refl (fun b => b = w.heap.size + 1) w4).set (w.heap.size + 1) 0 _ rfl).below HB4.out.size (fun j hj e => by omega))
 have HBs := hidd hbs
 have hds : ∀ x : Value, DfaM (w4.setCell ⟨w.heap.size + 1, 0, none⟩ x) w.heap.size (.slice adv l.length cpv) l := by
  intro x
  refine HD4.out.congr fun b cs t ht _ hh => ?_
  rw [heap_set_other w4 (w.heap.size + 1) 0 _ b (by
   rintro rfl
   rw [HKn.out.2] at hh
   simp only [Option.some.injEq, Obj.cells.injEq] at hh
   rcases ht with rfl | rfl
   ·exact absurd hh.2.1 (by decide)
   ·exact absurd hh.2.1 (by decide))]
  exact hh
 have HDs := hidd hds
 clear hset hbs hds
 by_cases hgt : 256 < l.length
 ·have hgz : (256 : Int) < (l.length : Int) := by omega
  go_wp2
  refine bodyPost_ret (v := .tuple #[.agg #[.slice none 0 0], .int .i64 11]) (by simp [results, Tryd.results37, go_sem, HSet.out]) rfl ?_
  exact ⟨_, HL.out, HBs.out _, Or.inl ⟨by rw [List.length_map]; exact hgt, rfl⟩⟩
 ·have hgz : ¬ (256 : Int) < (l.length : Int) := by omega
  go_wp2
  refine bodyPost_ret (v := .tuple #[.agg #[.slice adv l.length cpv], .int .i64 0]) (by simp [results, Tryd.results37, go_sem, HSet.out]) rfl ?_
  exact ⟨_, HL.out, HBs.out _, Or.inr ⟨by rw [List.length_map]; omega, _, l, rfl, rfl, HDs.out _⟩⟩
end Go.Proofs.YtoinajfliogcdaaDoor

namespace Go.Proofs.YtoinajfliogcdaaDoor
open Go Go.RowKit
set_option linter.unusedVariables false
set_option maxRecDepth 100000
set_option linter.unusedSimpArgs false

def fzCode (s : ByteArray) (k head : Int) : Int := if decCode s = 0 then (if (decList s).length ≤ 30 ∧ 0 ≤ k ∧ k ≤ 2 ∧ 0 ≤ head ∧ head ≤ (decList s).length then 0 else 12) else decCode s
set_option maxHeartbeats 2000000 in
theorem fuzzy_bad (s : ByteArray) (k head : Int) (w : World) (hs : s.size ≤ 1048576) (hbad : fzCode s k head ≠ 0) :
  Calls Tryd.prog 8 #[.string s, .int .i64 k, .int .i64 head] w fun e w' => e = .returned (.tuple #[.agg #[.slice none 0 0], .int .i64 (fzCode s k head)]) ∧ Below w.heap.size w w' := by
 have HEnd : Hid (∀ w2 : World, Below (w.alloc (.cells #[.slice none 0 0] 27)).heap.size (w.alloc (.cells #[.slice none 0 0] 27)) w2 → w2.cell? ⟨w.heap.size, 0, none⟩ = some (.slice none 0 0) ∧ w2.frozen? ⟨w.heap.size, 0, none⟩ = false ∧ (w2.setCell ⟨w.heap.size, 0, none⟩ (.slice none 0 0)).cell? ⟨w.heap.size, 0, none⟩ = some (.slice none 0 0) ∧ Below w.heap.size w (w2.setCell ⟨w.heap.size, 0, none⟩ (.slice none 0 0))) := by
  show ∀ _, _
  intro w2 hb2
  have hres : w2.heap[w.heap.size]? = some (.cells #[.slice none 0 0] 27) := blko (heap_alloc_new _ _) hb2
  have hbw : Below w.heap.size w w2 := ((Below.refl _ _).alloc (Nat.le_refl _) _).trans (hb2.mono (by simp))
  refine ⟨blkc hres 0, blkf hres 0, ?_, ?_⟩
  ·have := blk_setk hres 0 (.slice none 0 0)
   rw [blkc this 0]; simp
  ·exact hbw.trans (((But.refl (fun b => b = w.heap.size) w2).set (w.heap.size) 0 _ rfl).below hbw.size (fun j hj e => by omega))
 by_cases hc : decCode s = 0
 ·have hne : ¬ ((decList s).length ≤ 30 ∧ 0 ≤ k ∧ k ≤ 2 ∧ 0 ≤ head ∧ head ≤ (decList s).length) := fun h => hbad (by rw [fzCode, if_pos hc, if_pos h])
  have HE : Hid (fzCode s k head = 12) := by show _ = _; rw [fzCode, if_pos hc, if_neg hne]
  have HC := hidd hc
  clear hbad hc
  go_enter Tryd.func8, Tryd.ntmps8
  go_wp2_with fail
  refine (specDecode_any s _ hs).mono ?_
  rintro e w2 ⟨vw, rfl, hown, hb2⟩
  rw [HC.out]
  obtain ⟨aw, cw, hvw⟩ : ∃ a c, vw = .slice a (decList s).length c := by
   rcases own_cases hown with ⟨h, h0⟩ | ⟨g, c, h, _, _⟩
   ·exact ⟨none, 0, by rw [h, h0]⟩
   ·exact ⟨_, c, h⟩
  subst hvw
  clear hown
  obtain ⟨e1, e2, e3, e4⟩ := HEnd.out w2 hb2
  have He3 := hidd e3
  have He4 := hidd e4
  clear hb2 e3 e4
  generalize (decList s).length = n at *
  have hn5 : 30 < n ∨ (n ≤ 30 ∧ k < 0) ∨ (n ≤ 30 ∧ ¬ k < 0 ∧ 2 < k) ∨ (n ≤ 30 ∧ ¬ k < 0 ∧ ¬ 2 < k ∧ head < 0) ∨ (n ≤ 30 ∧ ¬ k < 0 ∧ ¬ 2 < k ∧ ¬ head < 0 ∧ (n : Int) < head) := by omega
  clear hne
  have fin : ∀ (a : Act), a.tmps[6]? = some (.pointer (some ⟨w.heap.size, 0, none⟩)) → True := fun _ _ => trivial
  clear fin
  rcases hn5 with h1 | ⟨h1, h2⟩ | ⟨h1, h2, h3⟩ | ⟨h1, h2, h3, h4⟩ | ⟨h1, h2, h3, h4, h5⟩
  ·have g1 : (30 : Int) < (n : Int) := by omega
   have d1 : decide ((30 : Int) < (n : Int)) = true := by simpa using g1
   go_wp2
   refine bodyPost_ret (v := .tuple #[.agg #[.slice none 0 0], .int .i64 12]) (by have q := He3.out; simp [results, Tryd.results8, go_sem, q]) rfl ?_
   exact ⟨by rw [HE.out], He4.out⟩
  ·have g1 : ¬ (30 : Int) < (n : Int) := by omega
   have d1 : decide ((30 : Int) < (n : Int)) = false := by simpa using g1
   have d2 : decide (k < 0) = true := by simpa using h2
   go_wp2
   refine bodyPost_ret (v := .tuple #[.agg #[.slice none 0 0], .int .i64 12]) (by have q := He3.out; simp [results, Tryd.results8, go_sem, q]) rfl ?_
   exact ⟨by rw [HE.out], He4.out⟩
  ·have g1 : ¬ (30 : Int) < (n : Int) := by omega
   have d1 : decide ((30 : Int) < (n : Int)) = false := by simpa using g1
   have d2 : decide (k < 0) = false := by simpa using h2
   have d3 : decide (2 < k) = true := by simpa using h3
   go_wp2
   refine bodyPost_ret (v := .tuple #[.agg #[.slice none 0 0], .int .i64 12]) (by have q := He3.out; simp [results, Tryd.results8, go_sem, q]) rfl ?_
   exact ⟨by rw [HE.out], He4.out⟩
  ·have g1 : ¬ (30 : Int) < (n : Int) := by omega
   have d1 : decide ((30 : Int) < (n : Int)) = false := by simpa using g1
   have d2 : decide (k < 0) = false := by simpa using h2
   have d3 : decide (2 < k) = false := by simpa using h3
   have d4 : decide (head < 0) = true := by simpa using h4
   go_wp2
   refine bodyPost_ret (v := .tuple #[.agg #[.slice none 0 0], .int .i64 12]) (by have q := He3.out; simp [results, Tryd.results8, go_sem, q]) rfl ?_
   exact ⟨by rw [HE.out], He4.out⟩
  ·have g1 : ¬ (30 : Int) < (n : Int) := by omega
   have d1 : decide ((30 : Int) < (n : Int)) = false := by simpa using g1
   have d2 : decide (k < 0) = false := by simpa using h2
   have d3 : decide (2 < k) = false := by simpa using h3
   have d4 : decide (head < 0) = false := by simpa using h4
   have d5 : decide ((n : Int) < head) = true := by simpa using h5
   go_wp2
   refine bodyPost_ret (v := .tuple #[.agg #[.slice none 0 0], .int .i64 12]) (by have q := He3.out; simp [results, Tryd.results8, go_sem, q]) rfl ?_
   exact ⟨by rw [HE.out], He4.out⟩
 ·have HE : Hid (fzCode s k head = decCode s) := by show _ = _; rw [fzCode, if_neg hc]
  obtain ⟨cd, hcd⟩ : ∃ cd, decCode s = cd := ⟨_, rfl⟩
  rw [hcd] at hc HE
  have hcb : (cd != 0) = true := by simpa using hc
  have HC := hidd hcd
  clear hbad hcd hc
  go_enter Tryd.func8, Tryd.ntmps8
  go_wp2_with fail
  refine (specDecode_any s _ hs).mono ?_
  rintro e w2 ⟨vw, rfl, hown, hb2⟩
  rw [HC.out]
  obtain ⟨aw, cw, hvw⟩ : ∃ a c, vw = .slice a (decList s).length c := by
   rcases own_cases hown with ⟨h, h0⟩ | ⟨g, c, h, _, _⟩
   ·exact ⟨none, 0, by rw [h, h0]⟩
   ·exact ⟨_, c, h⟩
  subst hvw
  clear hown
  obtain ⟨e1, e2, e3, e4⟩ := HEnd.out w2 hb2
  have He3 := hidd e3
  have He4 := hidd e4
  clear hb2 e3 e4
  go_wp2
  refine bodyPost_ret (v := .tuple #[.agg #[.slice none 0 0], .int .i64 cd]) (by have q := He3.out; simp [results, Tryd.results8, go_sem, q]) rfl ?_
  exact ⟨by rw [HE.out], He4.out⟩
end Go.Proofs.YtoinajfliogcdaaDoor
