import Derived.Test.YtoinajfliogcdaaDoorFuzzyJ32
import Derived.Test.YtoinajfliogcdaaDoorFuzzyJ33
import Derived.Test.YtoinajfliogcdaaDoorFuzzyJ29
import Derived.Test.YtoinajfliogcdaaDoorFuzzyJ35
import Derived.Ground.NamesProg
import Derived.Shelf.Unicode.ValidAny
import Derived.Shelf.Utf8.RuneCount
import Derived.Shelf.Sort.Plain
import Derived.Ground.Names2Prog
import Derived.Shelf.Slices.CompactI
import Derived.Shelf.Slices.In.SortNone
import Derived.Test.YtoinajfliogcdaaDoorProg
namespace Go.Proofs.YtoinajfliogcdaaDoor
open Go Go.RowKit
set_option linter.unusedVariables false
set_option linter.unusedSimpArgs false
set_option maxRecDepth 100000

/-! impl.walk.least at near words. -/
theorem FgN.aut {K : Kaut Near} {S : Nat} {x0 : Near} {Z : List Near} {nxt : List (List Nat)} {fins : List Bool} (h : FgN K S x0 Z.length Z nxt fins) : IsBfs (K.nexts S) x0 Z ∧ ∀ q, q < Z.length → (autR fins nxt).lang S q = (K.aut Z x0).lang S q := by
  have hb : IsBfs (K.nexts S) x0 Z := ⟨_, h.bf, Nat.le_refl _⟩
  have hto : ∀ q a, q < Z.length → a < S → (nxt.getD q []).getD a 0 = ix Z (K.step (Z.getD q x0) a) := by
    intro q a hq ha
    rw [h.nx q hq]
    simp [toN, ha]
  refine ⟨hb, fun q hq => ?_⟩
  refine (Aut.lang_congr (n := Z.length) (K.shut hb) (fun q hq => ?_) (fun q a hq ha => ?_) hq).symm
  · exact (h.fin q hq).symm
  · exact (hto q a hq ha).symm
theorem own_monoN {w : World} {base base' e n size : Nat} {v : Value} {xs : List Value} (h : w.ownsRow base e size v n xs) (hb : base' ≤ base) : w.ownsRow base' e size v n xs := by
  refine ⟨h.1, ?_⟩
  rcases h.2 with h1 | ⟨g, cap, cur, h1, h2, h3⟩
  · exact Or.inl h1
  · exact Or.inr ⟨g, cap, cur, h1, Nat.le_trans hb h2, h3⟩
theorem DfaM.lower {W : World} {base base' : Nat} {v : Value} {l : List MSt} (h : DfaM W base v l) (hb : base' ≤ base) : DfaM W base' v l := ⟨own_monoN h.row hb, fun s hs => own_monoN (h.arcs s hs) hb, h.apart⟩
def LnPost (word ls : List Int) (k head : Nat) (w : World) (e : Ending) (w' : World) : Prop :=
  Below w.heap.size w w' ∧ ((e = .returned (.tuple #[.agg #[.slice none 0 0], .int .i64 11]) ∧ ∀ L, sysL.Least ls.length ls ((nrK word ls k head).lang (ls.length + 1) (firstI word.length k)) L → 256 < L.length) ∨
    ∃ v l, sysL.Least ls.length ls ((nrK word ls k head).lang (ls.length + 1) (firstI word.length k)) (l.map Prod.snd) ∧ l.length ≤ 256 ∧ e = .returned (.tuple #[.agg #[v], .int .i64 0]) ∧ DfaM w' w.heap.size v l)
theorem ls_start (w : World) (cw ca : Array Value) :
    let W := ((w.alloc (.cells cw 77)).alloc (.cells ca 80)).alloc (.cells #[.slice none 0 0] 27)
    W.heap[w.heap.size]? = some (.cells cw 77) ∧ W.heap[w.heap.size + 1]? = some (.cells ca 80) ∧ W.heap[w.heap.size + 1 + 1]? = some (.cells #[.slice none 0 0] 27) ∧ Below w.heap.size w W := by
  have hz1 : (w.alloc (.cells cw 77)).heap.size = w.heap.size + 1 := by simp
  have hz2 : ((w.alloc (.cells cw 77)).alloc (.cells ca 80)).heap.size = w.heap.size + 1 + 1 := by simp
  refine ⟨?_, ?_, ?_, (((Below.refl _ _).alloc (Nat.le_refl _) _).alloc (by rw [hz1]; omega) _).alloc (by rw [hz2]; omega) _⟩
  · rw [Below.heap_alloc _ _ _ (by rw [hz2]; omega), Below.heap_alloc _ _ _ (by rw [hz1]; omega)]; exact heap_alloc_new w _
  · rw [Below.heap_alloc _ _ _ (by rw [hz2]; omega), ← hz1]; exact heap_alloc_new _ _
  · rw [← hz2]; exact heap_alloc_new _ _
set_option maxHeartbeats 8000000 in
theorem least_near (v a0 a1 a2 a3 : Value) (word ls : List Int) (k head : Nat) (w : World) (hl : word.length ≤ 30) (hll : ls.length ≤ 30) (hk : k ≤ 2) (hh : head ≤ word.length) (hz : ∀ z ∈ word, 0 ≤ z) (hv : HoldI w v word) (h0 : HoldI w a0 ls) (h1 : HoldI w a1 (nat2 (List.range ls.length))) (h2 : HoldI w a2 (ls ++ [-1])) (h3 : HoldI w a3 (cntA ls.length)) :
    Calls Tryd.prog 43 #[.agg (wkA (firstI word.length k) (folV v k head) (finV v k head)), .agg #[a0, a1, a2, a3]] w (LnPost word ls k head w) := by
  have hS := ls_start w (wkA (firstI word.length k) (folV v k head) (finV v k head)) #[a0, a1, a2, a3]
  dsimp only at hS
  obtain ⟨s1, s2, s3, s4⟩ := hS
  have H0 := hidd h0
  have H1 := hidd h1
  have H2 := hidd h2
  have H3 := hidd h3
  have HV := hidd hv
  obtain ⟨ad0, c0, rfl, -⟩ := h0
  obtain ⟨ad1, c1, rfl, -⟩ := h1
  obtain ⟨ad2, c2, rfl, -⟩ := h2
  obtain ⟨ad3, c3, rfl, -⟩ := h3
  rw [nat2_len, List.length_range] at *
  rw [List.length_append, List.length_singleton] at *
  rw [cntA_len] at *
  have w0 := blkc s1 0
  have w1 := blkc s1 1
  have w2 := blkc s1 2
  have w3 := blkc s1 3
  have w4 := blkc s1 4
  have w5 := blkc s1 5
  have w6 := blkc s1 6
  have b0 := blkc s2 0
  have b1 := blkc s2 1
  have b2 := blkc s2 2
  have b3 := blkc s2 3
  have HS4 := hidd s4
  have HS3 := hidd s3
  have HZ := hidd hz
  clear s1 s2 s3 s4 hv hz
  go_enter Tryd.func43, Tryd.ntmps43
  go_upto_region 1 with fail
  generalize ((w.alloc (.cells (wkA (firstI word.length k) (folV v k head) (finV v k head)) 77)).alloc (.cells #[.slice ad0 ls.length c0, .slice ad1 ls.length c1, .slice ad2 (ls.length + 1) c2, .slice ad3 (ls.length + 1) c3] 80)).alloc (.cells #[.slice none 0 0] 27) = W1 at *
  have HTb := hidd (tableOf_any v (.slice ad0 ls.length c0) (.slice ad1 ls.length c1) (.slice ad2 (ls.length + 1) c2) (.slice ad3 (ls.length + 1) c3) word ls k head W1 hl hll hk hh HZ.out (HV.out.below HS4.out) (H2.out.below HS4.out) ⟨_, _, _, rfl⟩ ⟨_, _, _, rfl⟩ ⟨_, _, _, rfl⟩)
  generalize hx0 : firstI word.length k = x0 at *
  go_wp2_with fail
  refine HTb.out.mono ?_
  rintro e W2 ⟨vrows, vfin, Z, nxt, bs, l, rfl, hG, hL, hR, hF, hb2, hZ⟩
  rw [hx0] at hG
  have hZ0 : 0 < Z.length := by
    have := hG.bf
    obtain ⟨r, hr⟩ := bfs_pre ((nrK word ls k head).nexts (ls.length + 1)) Z.length 0 [x0]
    rw [← this, hr]
    simp
  have hln : l.length = Z.length := by
    have := congrArg List.length hL
    rw [List.length_map, List.length_map, hG.nlen] at this
    exact this
  have hbn : bs.length = Z.length := hG.flen
  obtain ⟨adr, cpr, rfl⟩ := own_slk hR.row
  obtain ⟨adf, cpf, rfl⟩ := own_slk hF
  have HG := hidd hG
  have HL := hidd hL
  have HR := hidd hR
  have HF := hidd hF
  have HB2 := hidd (HS4.out.trans (hb2.mono HS4.out.size))
  have HR2 := hidd (blko HS3.out hb2)
  have HW1 := hidd hb2.size
  have hdn := hG.done hZ0
  have HSn : Hid (∀ q, q < l.length → (nxt.getD q []).length = ls.length + 1 ∧ ∀ a, a < ls.length + 1 → (nxt.getD q []).getD a 0 < l.length) := fun q hq => by
    have := hdn.2.2 q (by omega)
    rw [hbn, ← hln] at this
    exact this
  have HLg := hidd hdn.2.1
  have hbl : bs.length = l.length := by omega
  have HBl := hidd hbl
  have HLn := hidd hln
  have hl0 : 0 < l.length := by omega
  have hlZ : l.length ≤ 1114112 := by omega
  have hnew := heap_alloc_new W2 (.cells #[.slice ad0 ls.length c0, .slice ad1 ls.length c1, .slice ad2 (ls.length + 1) c2, .slice ad3 (ls.length + 1) c3, .slice adr l.length cpr, .slice adf bs.length cpf, nilS, nilS] 127)
  have hb3 : Below W2.heap.size W2 (W2.alloc (.cells #[.slice ad0 ls.length c0, .slice ad1 ls.length c1, .slice ad2 (ls.length + 1) c2, .slice ad3 (ls.length + 1) c3, .slice adr l.length cpr, .slice adf bs.length cpf, nilS, nilS] 127)) := (Below.refl _ _).alloc (Nat.le_refl _) _
  have HPt := hidd (part_any W1.heap.size W2.heap.size 0 cpr 0 cpf adr adf (.slice ad0 ls.length c0) (.slice ad1 ls.length c1) (.slice ad2 (ls.length + 1) c2) (.slice ad3 (ls.length + 1) c3) l bs nxt (ls.length + 1) (W2.alloc (.cells #[.slice ad0 ls.length c0, .slice ad1 ls.length c1, .slice ad2 (ls.length + 1) c2, .slice ad3 (ls.length + 1) c3, .slice adr l.length cpr, .slice adf bs.length cpf, nilS, nilS] 127)) hnew (hR.congr fun b cs t _ _ hh => blko hh hb3) (own_congr hF (fun b hk => hb3.block b (Array.getElem?_eq_some_iff.1 (own_blk hF hk).2.choose_spec).1)) hL hbl HSn.out (by omega) hl0 hlZ (Nat.le_trans HW1.out hb3.size))
  have HB3 := hidd (HB2.out.trans (hb3.mono HB2.out.size))
  have HR3 := hidd (blko HR2.out hb3)
  have htb : w.heap.size + 1 + 1 < W2.heap.size := (Array.getElem?_eq_some_iff.1 HR2.out).1
  clear hG hL hR hF hb2 HTb w0 w1 w2 w3 w4 w5 w6 b0 b1 b2 b3 HS3 hln hbn hbl hdn hnew hb3 HB2 HR2 HR HF
  go_upto_region 4 with fail
  generalize (W2.alloc (.cells #[.slice ad0 ls.length c0, .slice ad1 ls.length c1, .slice ad2 (ls.length + 1) c2, .slice ad3 (ls.length + 1) c3, .slice adr l.length cpr, .slice adf bs.length cpf, nilS, nilS] 127)) = W3 at *
  obtain ⟨tb, htb2⟩ : ∃ tb, W2.heap.size = tb := ⟨_, rfl⟩
  rw [htb2] at HPt htb
  simp only [htb2]
  clear htb2
  go_wp2_with fail
  refine HPt.out.mono ?_
  rintro e W4 hpt
  rcases hpt with ⟨rfl, bx, g3, c3', vpts, cl, us, parts, hP, hOK, hSt, hcl, hcz, hpl⟩ | ⟨rfl, hbut, κ, c, hco, hon, hc⟩
  · have hb4 : Below w.heap.size w W4 := HB3.out.trans (hP.but.below HB3.out.size (fun j hj e => by omega))
    have hr4 : W4.heap[w.heap.size + 1 + 1]? = some (.cells #[.slice none 0 0] 27) := by
      rw [hP.but.block _ (Array.getElem?_eq_some_iff.1 HR3.out).1 (by omega)]
      exact HR3.out
    obtain ⟨gp, cp, gf, cf, hI⟩ := dfIn_of W3 W4 W1.heap.size tb bx g3 c3' c2 ad2 _ _ _ _ _ _ l bs cl us parts nxt ls hP hOK hcl hcz hpl HL.out HBl.out HSn.out hll hl0 hlZ (H3.out.below hb4)
    have HDf := hidd (dfa_any tb gp cp gf cf g3 c3' l.length _ _ _ _ _ bs cl parts nxt ls W4 hI hOK hSt hcl HBl.out (fun z hz => (hcz z hz).1) hpl HSn.out hll hl0 hlZ (H0.out.below hb4) (H1.out.below hb4))
    have HB4 := hidd hb4
    have HR4 := hidd hr4
    clear hP hOK hSt hcl hcz hpl hI hb4 hr4 HPt HB3 HR3
    go_wp2_with fail
    refine HDf.out.mono ?_
    rintro e W5 ⟨v5, D, rfl, hM, hLs, hb5, hDl, ad5, c5, rfl⟩
    have hb6 : Below W5.heap.size W5 (W5.alloc (.cells #[.slice ad5 D.length c5] 27)) := (Below.refl _ _).alloc (Nat.le_refl _) _
    have hn6 := heap_alloc_new W5 (.cells #[.slice ad5 D.length c5] 27)
    have hbw6 : Below w.heap.size w (W5.alloc (.cells #[.slice ad5 D.length c5] 27)) := (HB4.out.trans (hb5.mono HB4.out.size)).trans (hb6.mono (Nat.le_trans HB4.out.size hb5.size))
    have hr6 := blko (blko HR4.out hb5) hb6
    have c6 : (W5.alloc (.cells #[.slice ad5 D.length c5] 27)).cell? ⟨W5.heap.size, 0, none⟩ = some (.slice ad5 D.length c5) := blkc hn6 0
    have rc := blkc hr6 0
    have fc := blkf hr6 0
    have hset := fun u => blk_setk hr6 0 u
    rw [HLg.out] at hLs
    have HLs := hidd hLs
    have HM : Hid (DfaM (W5.alloc (.cells #[.slice ad5 D.length c5] 27)) w.heap.size (.slice ad5 D.length c5) D) := (hM.lower HB4.out.size).below hb6
    have HBw6 := hidd hbw6
    have HSet := hidd hset
    have HR6 := hidd hr6
    clear hM hLs hb5 hb6 hn6 hbw6 hr6 hset HB4 HR4 HDf
    have HEnd : Hid (∀ u, ((W5.alloc (.cells #[.slice ad5 D.length c5] 27)).setCell ⟨w.heap.size + 1 + 1, 0, none⟩ u).cell? ⟨w.heap.size + 1 + 1, 0, none⟩ = some u ∧ Below w.heap.size w ((W5.alloc (.cells #[.slice ad5 D.length c5] 27)).setCell ⟨w.heap.size + 1 + 1, 0, none⟩ u) ∧ DfaM ((W5.alloc (.cells #[.slice ad5 D.length c5] 27)).setCell ⟨w.heap.size + 1 + 1, 0, none⟩ u) w.heap.size (.slice ad5 D.length c5) D) := fun u => by
      refine ⟨?_, HBw6.out.trans (((But.refl (fun b => b = w.heap.size + 1 + 1) _).set (w.heap.size + 1 + 1) 0 _ rfl).below HBw6.out.size (fun j hj e => by omega)), HM.out.congr fun b cs t ht _ hh => ?_⟩
      · rw [blkc (HSet.out u) 0]; simp
      · rw [heap_set_other _ (w.heap.size + 1 + 1) 0 _ b (by
          rintro rfl
          have hr := HR6.out
          rw [hr] at hh
          simp only [Option.some.injEq, Obj.cells.injEq] at hh
          rcases ht with rfl | rfl
          · exact absurd hh.2.1 (by decide)
          · exact absurd hh.2.1 (by decide))]
        exact hh
    clear HM HBw6 HSet HR6
    generalize hDn : D.length = N at *
    by_cases hN : 256 < N
    · have hNz : (256 : Int) < (N : Int) := by omega
      have dz : decide ((256 : Int) < (N : Int)) = true := decide_eq_true hNz
      go_wp2_with fail
      obtain ⟨e1, e2, -⟩ := HEnd.out (.slice none 0 0)
      refine bodyPost_ret (v := .tuple #[.agg #[.slice none 0 0], .int .i64 11]) (by simp [results, Tryd.results43, go_sem, e1]) rfl ?_
      refine ⟨e2, Or.inl ⟨rfl, fun L hL => ?_⟩⟩
      rw [hx0] at hL
      have e9 := congrArg List.length (Sys.Least.uniq hL HLs.out)
      rw [List.length_map, hDn] at e9
      omega
    · have hNz : ¬ (256 : Int) < (N : Int) := by omega
      have dz : decide ((256 : Int) < (N : Int)) = false := decide_eq_false hNz
      go_upto_region 10 with fail
      refine wp_region_list ?_
      refine wpL_loadDfa rfl _ rfl W5.heap.size ad5 N c5 (by kernel_rfl) c6 ?_
      refine wpL_storeDfa rfl _ _ rfl (w.heap.size + 1 + 1) ad5 N c5 (.slice none 0 0) (by kernel_rfl) (by kernel_rfl) rc fc ?_
      go_wp2_with fail
      obtain ⟨e1, e2, e3⟩ := HEnd.out (.slice ad5 N c5)
      refine bodyPost_ret (v := .tuple #[.agg #[.slice ad5 N c5], .int .i64 0]) (by simp [results, Tryd.results43, go_sem, e1]) rfl ?_
      refine ⟨e2, Or.inr ⟨_, D, ?_, by omega, rfl, e3⟩⟩
      rw [hx0]
      exact HLs.out
  · have hb4 : Below w.heap.size w W4 := HB3.out.trans (hbut.below HB3.out.size (fun j hj e => by omega))
    have hr4 : W4.heap[w.heap.size + 1 + 1]? = some (.cells #[.slice none 0 0] 27) := by
      rw [hbut.block _ (Array.getElem?_eq_some_iff.1 HR3.out).1 (by omega)]
      exact HR3.out
    have rc := blkc hr4 0
    have fc := blkf hr4 0
    have HMany : Hid (∀ L, sysL.Least ls.length ls ((nrK word ls k head).lang (ls.length + 1) x0) L → 256 < L.length) := fun L hL => by
      obtain ⟨f1, f2⟩ := HG.out.aut
      have hzl := HLn.out
      have := Kaut.many f1 hL (κ := κ) (c := c) (fun q r hq hr e => hco q r (by omega) (by omega) (by rw [f2 q hq, f2 r hr]; exact e)) (fun y hy => by
        obtain ⟨q, hq, e⟩ := hon y hy
        exact ⟨q, by omega, e⟩)
      omega
    have HEnd : Hid ((W4.setCell ⟨w.heap.size + 1 + 1, 0, none⟩ (.slice none 0 0)).cell? ⟨w.heap.size + 1 + 1, 0, none⟩ = some (.slice none 0 0) ∧ Below w.heap.size w (W4.setCell ⟨w.heap.size + 1 + 1, 0, none⟩ (.slice none 0 0))) := by
      refine ⟨?_, hb4.trans (((But.refl (fun b => b = w.heap.size + 1 + 1) _).set (w.heap.size + 1 + 1) 0 _ rfl).below hb4.size (fun j hj e => by omega))⟩
      rw [blkc (blk_setk hr4 0 _) 0]; simp
    clear hb4 hr4 hbut hco hon HPt HB3 HR3
    go_wp2_with fail
    obtain ⟨e1, e2⟩ := HEnd.out
    refine bodyPost_ret (v := .tuple #[.agg #[.slice none 0 0], .int .i64 11]) (by simp [results, Tryd.results43, go_sem, e1]) rfl ?_
    refine ⟨e2, Or.inl ⟨rfl, fun L hL => ?_⟩⟩
    rw [hx0] at hL
    exact HMany.out L hL
end Go.Proofs.YtoinajfliogcdaaDoor

namespace Go.Proofs
open Go.Shelf
def Tryd.laysValid_ren : Go.Shelf.Ren := ⟨fun | 196 => 93 | 259 => 126 | n => n, fun | 9 => 9 | 4 => 4 | 3 => 3 | 5 => 5 | 12 => 12 | 119 => 183 | 0 => 0 | 46 => 124 | 139 => 186 | 138 => 185 | 53 => 69 | n => n, fun | 3 => 0 | 4 => 1 | n => n⟩
theorem Tryd.laysValid : Go.Proofs.Lays.n196 Tryd.prog Tryd.laysValid_ren := {
  mixed := by kernel_rfl
  f196 := Tryd.func93.trans (congrArg some (by kernel_rfl))
  f259 := Tryd.func126.trans (congrArg some (by kernel_rfl))
  t0 := Tryd.underlying0
  a0 := Tryd.isAgg0
  z0 := Tryd.sizeOf0
  v0 := Tryd.zeroValue0
  t3 := Tryd.underlying3
  a3 := Tryd.isAgg3
  z3 := Tryd.sizeOf3
  v3 := Tryd.zeroValue3
  t4 := Tryd.underlying4
  a4 := Tryd.isAgg4
  z4 := Tryd.sizeOf4
  v4 := Tryd.zeroValue4
  t5 := Tryd.underlying5
  a5 := Tryd.isAgg5
  z5 := Tryd.sizeOf5
  v5 := Tryd.zeroValue5
  t9 := Tryd.underlying9
  a9 := Tryd.isAgg9
  z9 := Tryd.sizeOf9
  v9 := Tryd.zeroValue9
  t12 := Tryd.underlying12
  a12 := Tryd.isAgg12
  z12 := Tryd.sizeOf12
  v12 := Tryd.zeroValue12
  t46 := Tryd.underlying124
  a46 := Tryd.isAgg124
  z46 := Tryd.sizeOf124
  v46 := Tryd.zeroValue124
  t53 := Tryd.underlying69
  a53 := Tryd.isAgg69
  z53 := Tryd.sizeOf69
  v53 := Tryd.zeroValue69
  t119 := Tryd.underlying183
  a119 := Tryd.isAgg183
  z119 := Tryd.sizeOf183
  t138 := Tryd.underlying185
  a138 := Tryd.isAgg185
  z138 := Tryd.sizeOf185
  v138 := Tryd.zeroValue185
  t139 := Tryd.underlying186
  a139 := Tryd.isAgg186
  z139 := Tryd.sizeOf186
  v139 := Tryd.zeroValue186
  g3 := by kernel_rfl
  g4 := by kernel_rfl }
def Tryd.lays195_ren : Go.Shelf.Ren := ⟨fun | 195 => 66 | n => n, fun | 9 => 9 | 3 => 3 | 0 => 0 | 4 => 4 | n => n, fun | n => n⟩
theorem Tryd.lays195 : Go.Proofs.Lays.n195 Tryd.prog Tryd.lays195_ren := {
  mixed := by kernel_rfl
  f195 := Tryd.func66.trans (congrArg some (by kernel_rfl))
  t0 := Tryd.underlying0
  a0 := Tryd.isAgg0
  z0 := Tryd.sizeOf0
  v0 := Tryd.zeroValue0
  t3 := Tryd.underlying3
  a3 := Tryd.isAgg3
  z3 := Tryd.sizeOf3
  v3 := Tryd.zeroValue3
  t4 := Tryd.underlying4
  a4 := Tryd.isAgg4
  z4 := Tryd.sizeOf4
  v4 := Tryd.zeroValue4
  t9 := Tryd.underlying9
  a9 := Tryd.isAgg9
  z9 := Tryd.sizeOf9
  v9 := Tryd.zeroValue9 }
open Go.RowKit in
theorem Tryd.utf8_RuneCountInString (s : ByteArray) (w : World) (hs : s.size < 9223372036854775807) :
    Calls Tryd.prog 66 #[.string s] w fun e w' => e = .returned (.int .i64 (Lib.runeCount s)) ∧ ∃ pos, w' = w.iter s pos := Any.utf8_RuneCountInString Tryd.lays195 s w hs
def Tryd.lays189_ren : Go.Shelf.Ren := ⟨fun | 189 => 123 | 125 => 143 | 257 => 142 | 128 => 158 | 129 => 105 | 294 => 149 | 295 => 150 | 296 => 151 | 297 => 152 | 298 => 153 | 299 => 154 | 216 => 155 | 300 => 156 | 301 => 157 | 328 => 159 | 329 => 160 | 330 => 161 | 331 => 162 | 332 => 163 | 215 => 144 | 343 => 164 | n => n, fun | 28 => 30 | 3 => 3 | 46 => 124 | 0 => 0 | 51 => 235 | 53 => 69 | 4 => 4 | 183 => 229 | 182 => 228 | 131 => 187 | 5 => 5 | 9 => 9 | 218 => 237 | 222 => 240 | 228 => 242 | 229 => 36 | n => n, fun | n => n⟩
theorem Tryd.lays189 : Go.Proofs.Lays.n189 Tryd.prog Tryd.lays189_ren := {
  mixed := by kernel_rfl
  f125 := Tryd.func143.trans (congrArg some (by kernel_rfl))
  f128 := Tryd.func158.trans (congrArg some (by kernel_rfl))
  f129 := Tryd.func105.trans (congrArg some (by kernel_rfl))
  f189 := Tryd.func123.trans (congrArg some (by kernel_rfl))
  f215 := Tryd.func144.trans (congrArg some (by kernel_rfl))
  f216 := Tryd.func155.trans (congrArg some (by kernel_rfl))
  f257 := Tryd.func142.trans (congrArg some (by kernel_rfl))
  f294 := Tryd.func149.trans (congrArg some (by kernel_rfl))
  f295 := Tryd.func150.trans (congrArg some (by kernel_rfl))
  f296 := Tryd.func151.trans (congrArg some (by kernel_rfl))
  f297 := Tryd.func152.trans (congrArg some (by kernel_rfl))
  f298 := Tryd.func153.trans (congrArg some (by kernel_rfl))
  f299 := Tryd.func154.trans (congrArg some (by kernel_rfl))
  f300 := Tryd.func156.trans (congrArg some (by kernel_rfl))
  f301 := Tryd.func157.trans (congrArg some (by kernel_rfl))
  f328 := Tryd.func159.trans (congrArg some (by kernel_rfl))
  f329 := Tryd.func160.trans (congrArg some (by kernel_rfl))
  f330 := Tryd.func161.trans (congrArg some (by kernel_rfl))
  f331 := Tryd.func162.trans (congrArg some (by kernel_rfl))
  f332 := Tryd.func163.trans (congrArg some (by kernel_rfl))
  f343 := Tryd.func164.trans (congrArg some (by kernel_rfl))
  t0 := Tryd.underlying0
  a0 := Tryd.isAgg0
  z0 := Tryd.sizeOf0
  v0 := Tryd.zeroValue0
  t3 := Tryd.underlying3
  a3 := Tryd.isAgg3
  z3 := Tryd.sizeOf3
  v3 := Tryd.zeroValue3
  t4 := Tryd.underlying4
  a4 := Tryd.isAgg4
  z4 := Tryd.sizeOf4
  v4 := Tryd.zeroValue4
  t5 := Tryd.underlying5
  a5 := Tryd.isAgg5
  z5 := Tryd.sizeOf5
  v5 := Tryd.zeroValue5
  t9 := Tryd.underlying9
  a9 := Tryd.isAgg9
  z9 := Tryd.sizeOf9
  v9 := Tryd.zeroValue9
  t28 := Tryd.underlying30
  a28 := Tryd.isAgg30
  z28 := Tryd.sizeOf30
  v28 := Tryd.zeroValue30
  t46 := Tryd.underlying124
  a46 := Tryd.isAgg124
  z46 := Tryd.sizeOf124
  v46 := Tryd.zeroValue124
  t51 := Tryd.underlying235
  a51 := Tryd.isAgg235
  z51 := Tryd.sizeOf235
  v51 := Tryd.zeroValue235
  t53 := Tryd.underlying69
  a53 := Tryd.isAgg69
  z53 := Tryd.sizeOf69
  v53 := Tryd.zeroValue69
  t131 := Tryd.underlying187
  a131 := Tryd.isAgg187
  z131 := Tryd.sizeOf187
  v131 := Tryd.zeroValue187
  t182 := Tryd.underlying228
  a182 := Tryd.isAgg228
  z182 := Tryd.sizeOf228
  v182 := Tryd.zeroValue228
  t183 := Tryd.underlying229
  a183 := Tryd.isAgg229
  z183 := Tryd.sizeOf229
  v183 := Tryd.zeroValue229
  t218 := Tryd.underlying237
  a218 := Tryd.isAgg237
  z218 := Tryd.sizeOf237
  v218 := Tryd.zeroValue237
  t222 := Tryd.underlying240
  a222 := Tryd.isAgg240
  z222 := Tryd.sizeOf240
  v222 := Tryd.zeroValue240
  t228 := Tryd.underlying242
  a228 := Tryd.isAgg242
  z228 := Tryd.sizeOf242
  v228 := Tryd.zeroValue242
  t229 := Tryd.underlying36
  a229 := Tryd.isAgg36
  z229 := Tryd.sizeOf36
  v229 := Tryd.zeroValue36 }
open Go.Sort Go.RowKit in
theorem Tryd.slices_Sort_int (blk off cap : Nat) (zs : List Int) (w : World) (hH : Holds (Value.int .i64) w blk off zs.toArray) (hblk : blk < w.heap.size) (hsz : zs.length < 4611686018427387904) :
    Calls Tryd.prog 123 #[.slice (some ⟨blk, off, none⟩) zs.length cap] w fun e w' =>
      e = .returned (.tuple #[]) ∧ ∃ n os, w' = grow (putRow (Value.int .i64) (Sort.ahead w n) blk off (zs.mergeSort fun x y => decide (x ≤ y)).toArray) os := Any.slices_Sort_int Tryd.lays189 blk off cap zs w hH hblk hsz
def Tryd.laysNm220_ren : Go.Shelf.Ren := ⟨fun | 20 => 88 | n => n, fun | 22 => 30 | 3 => 3 | 4 => 4 | 0 => 0 | n => n, fun | n => n⟩
theorem Tryd.laysNm220 : Go.Proofs.Lays2.n20 Tryd.prog Tryd.laysNm220_ren := {
  mixed := by kernel_rfl
  f20 := Tryd.func88.trans (congrArg some (by kernel_rfl))
  t0 := Tryd.underlying0
  a0 := Tryd.isAgg0
  z0 := Tryd.sizeOf0
  v0 := Tryd.zeroValue0
  t3 := Tryd.underlying3
  a3 := Tryd.isAgg3
  z3 := Tryd.sizeOf3
  v3 := Tryd.zeroValue3
  t4 := Tryd.underlying4
  a4 := Tryd.isAgg4
  z4 := Tryd.sizeOf4
  v4 := Tryd.zeroValue4
  t22 := Tryd.underlying30
  a22 := Tryd.isAgg30
  z22 := Tryd.sizeOf30
  v22 := Tryd.zeroValue30
  i3 := by kernel_rfl }
open Go.RowKit Go.Lib Go.Sort in
open Go.RowKit Go.Lib Go.Sort in
theorem Tryd.slices_Compact_int (blk off cap : Nat) (zs : List Int) (w : World) (hH : Holds (Value.int .i64) w blk off zs.toArray) (hsz : zs.length ≤ 9223372036854775807) (hcap : zs.length ≤ cap) :
    Calls Tryd.prog 88 #[.slice (some ⟨blk, off, none⟩) zs.length cap] w fun e w' => e = .returned (.slice (some ⟨blk, off, none⟩) (Lib.compact zs).length cap) ∧ ∃ q, w' = putRow (Value.int .i64) (Sort.ahead w q) blk off (Lib.compact zs ++ List.replicate (zs.length - (Lib.compact zs).length) 0).toArray := Any.slices_Compact_int Tryd.laysNm220 blk off cap zs w hH hsz hcap
open Go.RowKit Go.Lib Go.Sort in
theorem Tryd.slices_Compact_int_empty (a : Option Addr) (cap : Nat) (w : World) :
    Calls Tryd.prog 88 #[.slice a 0 cap] w fun e w' => e = .returned (.slice a 0 cap) ∧ w' = w := Any.slices_Compact_int_empty Tryd.laysNm220 a cap w
open Go.RowKit Go.Sort in
theorem Tryd.slices_Sort_int_none (p : Option Addr) (cap : Nat) (w : World) :
    Calls Tryd.prog 123 #[.slice p 0 cap] w fun e w' => e = .returned (.tuple #[]) ∧ w' = w := Any.slices_Sort_int_none Tryd.lays189 p cap w
end Go.Proofs
