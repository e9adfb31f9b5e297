import Derived.Test.YtoinajfliogcdaaDoorNearJ50
import Derived.Deep.AppendLies
import Derived.Deep.RegionLaw
import Derived.Deep.RegionHeld3
import Derived.Maps.AppendAt
namespace Go.Proofs.YtoinajfliogcdaaDoor
open Go Go.RowKit
set_option linter.unusedVariables false
set_option linter.unusedSimpArgs false

section
variable {P : Program} (w : World)
theorem stepN_append {ops : Array Oper} {o : Oper} {a : Act} {K : Act → World → Prop} {Q : Exit → Act → World → Prop} {E : Prop} (hgd : o.guard = none) (s x : Operand) (t : TypeId)
  (ho : o.op = .call { callee := .builtin .append, args := #[s, x], argTypes := #[t, t] })
  (base : Nat) (e : TypeId) (i : TypeInfo) (z : Value) (size bytes : Nat) (ht : P.underlying t = some (.slice e)) (hi : P.info? e = some i) (hz : i.zero = some z)
  (hsize : i.size = size) (hby : i.bytes = bytes) (hzs : z.cells.size = size) (hsz : 0 < size)
  (v : Value) (n : Nat) (xs : List Value) (hs : a.eval s = v) (hown : w.ownsRow base e size v n xs)
  (ad : Addr) (m c : Nat) (news : List Value) (hx : a.eval x = .slice (some ad) m c) (hl : news.length = m * size) (hnews : ∀ j u, news[j]? = some u → w.cell? (ad.add j) = some u) (h1 : ∀ u ∈ news, u.oneCell' = true)
  (hv : v ≠ .slice none 0 0) (h63 : n + m ≤ maxLen) (hbytes : (n + m) * bytes ≤ 140737488355328) (hbase : base ≤ w.heap.size)
  (h : ∀ g cap w', w'.ownsRow base e size (.slice (some ⟨g, 0, none⟩) (n + m) cap) (n + m) (xs ++ news) → w.grownBy w' v.ownBlock → (v.ownBlock = some g ∨ g = w.heap.size) → K (a.put o.dst (.slice (some ⟨g, 0, none⟩) (n + m) cap)) w') :
  if Region.wanted o (yielded ops a.tmps) = true then Oper.wp P o a w K Q else E := by
 have hw : Region.wanted o (yielded ops a.tmps) = true := by simp [Region.wanted, hgd]
 rw [if_pos hw]
 obtain ⟨v', w', hr, h2, h3, h4, h5⟩ := run_append_own_at (P := P) w base t o.type e i z size bytes ht hi hz hsize hby hzs hsz v n xs hown ad m c news hl hnews h1 h63 hbytes hbase
 have hne : v' ≠ .slice none 0 0 := fun e1 => hv (h4.1 e1).1
 obtain ⟨g, cap, rfl⟩ : ∃ g cap, v' = .slice (some ⟨g, 0, none⟩) (n + m) cap := by
  rcases h2.2 with ⟨h', _⟩ | ⟨g, cap, cur, h', _⟩
  ·exact absurd h' hne
  ·exact ⟨g, cap, h'⟩
 unfold Oper.wp execOp
 simp only [ho, resolve, invoke, builtin, Sem.run_bind, Sem.run_pure, Result.andThen_ok, List.map_toArray, List.map_cons, List.map_nil, hs, hx, hr]
 refine h g cap w' h2 h3 ?_
 rcases h5 with h5 | h5
 ·exact .inl h5.symm
 ·exact .inr (by simpa [Value.ownBlock] using h5)
theorem wpList_append_rowN {ops : Array Oper} {rest : List Oper} {o : Oper} {a : Act} {Q : Exit → Act → World → Prop} (hgd : o.guard = none) (s x : Operand) (t : TypeId)
  (ho : o.op = .call { callee := .builtin .append, args := #[s, x], argTypes := #[t, t] })
  (base : Nat) (e : TypeId) (i : TypeInfo) (z : Value) (bytes : Nat) (ht : P.underlying t = some (.slice e)) (hi : P.info? e = some i) (hz : i.zero = some z)
  (hsize : i.size = 1) (hby : i.bytes = bytes) (hzs : z.cells.size = 1)
  (g : Nat) (hs : a.eval s = .slice (some ⟨g, 0, none⟩) 0 0) (hown : w.ownsRow base e 1 (.slice (some ⟨g, 0, none⟩) 0 0) 0 [])
  (v2 : Value) (m base2 : Nat) (news : List Value) (hx : a.eval x = v2) (hrow : w.ownsRow base2 e 1 v2 m news) (h1 : ∀ u ∈ news, u.oneCell' = true)
  (h63 : m ≤ maxLen) (hbytes : m * bytes ≤ 140737488355328) (hbase : base ≤ w.heap.size)
  (h : ∀ g' cap w', w'.ownsRow base e 1 (.slice (some ⟨g', 0, none⟩) m cap) m news → w.grownBy w' (some g) → wpList P ops Q rest (a.put o.dst (.slice (some ⟨g', 0, none⟩) m cap)) w') :
  wpList P ops Q (o :: rest) a w := by
 rcases hrow.2 with ⟨rfl, rfl⟩ | ⟨g2, cap2, cur, rfl, hbg, hg, hnc, hcm, hcs, htake⟩
 ·have hn : news = [] := List.eq_nil_of_length_eq_zero (by simpa using hrow.1)
  subst hn
  refine wpList_plain hgd fun K hK => ?_
  have hr : (Builtin.append_ #[t, t] o.type #[.slice (some ⟨g, 0, none⟩) 0 0, .slice none 0 0]).run P w = .ok (.slice (some ⟨g, 0, none⟩) 0 0) w := by
   simp [Builtin.append_, run_underlying ht, sizeOf, typeInfo, hi, Builtin.lenOf, Builtin.firstCells, loadCells, loadCellsFrom, storeCells]
  unfold Oper.wp execOp
  simp only [ho, resolve, invoke, builtin, Sem.run_bind, Sem.run_pure, Result.andThen_ok, List.map_toArray, List.map_cons, List.map_nil, hs, hx, hr]
  exact hK _ _ (h g 0 w hown ⟨rfl, rfl, rfl, Nat.le_refl _, fun _ _ _ => rfl⟩)
 ·refine wpList_append_own_at w hgd s x t ho base e i z 1 bytes ht hi hz hsize hby hzs (by decide) _ 0 [] hs hown ⟨g2, 0, none⟩ m cap2 news hx hrow.1 (hrow.cells (g := g2) rfl) h1 (by omega) (by rw [Nat.zero_add]; exact hbytes) hbase ?_
  intro v' w' h2 h3 h4 h5
  rw [Nat.zero_add, List.nil_append] at h2
  rcases h2.2 with ⟨h', _⟩ | ⟨g', cap', cur', h', _⟩
  ·exact absurd (h4.1 h').1 (by simp)
  ·subst h'
   exact h g' cap' w' h2 h3
end

theorem Tryd.infoIntN : (Tryd.prog.info? 3).map (fun i => (i.zero, i.size, i.bytes)) = some (some (.int .i64 0), 1, 8) := by kernel_rfl
theorem ownEN {B : Nat} (W : World) (h : W.heap.size = B) : (W.alloc (.cells #[] 3)).ownsRow B 3 1 (.slice (some ⟨B, 0, none⟩) 0 0) 0 [] := by
 subst h
 refine ⟨rfl, Or.inr ⟨W.heap.size, 0, #[], rfl, Nat.le_refl _, ?_, Nat.le_refl _, by decide, rfl, rfl⟩⟩
 show (W.heap.push _)[W.heap.size]? = _
 simp
theorem intNews {W : World} {base g n c : Nat} {zs : List Int} (ho : W.ownsRow base 3 1 (.slice (some ⟨g, 0, none⟩) n c) n (zs.map (Value.int .i64))) (k : Nat) (l : List Int) (hl : ∀ j, j < l.length → k + j < n ∧ l[j]? = zs[k + j]?) :
  ∀ j u, (l.map (Value.int .i64))[j]? = some u → W.cell? ((⟨g, k, none⟩ : Addr).add j) = some u := by
 intro j u hj
 have hjl : j < l.length := by have := (List.getElem?_eq_some_iff.1 hj).1; simpa using this
 obtain ⟨h1, h2⟩ := hl j hjl
 rw [show (⟨g, k, none⟩ : Addr).add j = ⟨g, k + j, none⟩ from by simp only [Addr.add]; split <;> simp_all]
 rw [ho.cellAt (k + j) (by omega)]
 rw [List.getElem?_map] at hj ⊢
 rw [← h2, hj]
theorem intOne (l : List Int) : ∀ u ∈ l.map (Value.int .i64), u.oneCell' = true := by
 intro u hu
 simp only [List.mem_map] at hu
 obtain ⟨x, _, rfl⟩ := hu
 rfl
theorem own_grownN {w w' : World} {base e n : Nat} {v : Value} {xs : List Value} {row : Option Nat} (h : w.ownsRow base e 1 v n xs) (hg : w.grownBy w' row) (hne : ∀ b, v.ownBlock = some b → some b ≠ row) : w'.ownsRow base e 1 v n xs := by
 obtain ⟨h1, h2⟩ := h
 refine ⟨h1, ?_⟩
 rcases h2 with h2 | ⟨g, cap, cur, rfl, h3, h4, h5⟩
 ·exact Or.inl h2
 ·exact Or.inr ⟨g, cap, cur, rfl, h3, (hg.block g (Array.getElem?_eq_some_iff.1 h4).1 (hne g rfl)).trans h4, h5⟩
theorem wpOp_appN {W : World} {ops : Array Oper} {i : Nat} {o : Oper} {a : Act} {K : Act → World → Prop} {Q : Exit → Act → World → Prop} (hio : ops[i]? = some o) (hw : Region.wanted o (yielded ops a.tmps) = true) (hgd : o.guard = none) (s x : Operand)
  (ho : o.op = .call { callee := .builtin .append, args := #[s, x], argTypes := #[30, 30] })
  (base g0 c0 : Nat) (n : Nat) (xs : List Value) (hs : a.eval s = .slice (some ⟨g0, 0, none⟩) n c0) (hown : W.ownsRow base 3 1 (.slice (some ⟨g0, 0, none⟩) n c0) n xs)
  (ad : Addr) (m c : Nat) (news : List Int) (hx : a.eval x = .slice (some ad) m c) (hl : news.length = m) (hnews : ∀ j u, (news.map (Value.int .i64))[j]? = some u → W.cell? (ad.add j) = some u)
  (hnm : n + m ≤ 1048576) (hbase : base ≤ W.heap.size)
  (h : ∀ g cap w', w'.ownsRow base 3 1 (.slice (some ⟨g, 0, none⟩) (n + m) cap) (n + m) (xs ++ news.map (Value.int .i64)) → W.grownBy w' (some g0) → K (a.put o.dst (.slice (some ⟨g, 0, none⟩) (n + m) cap)) w') :
  wpOp Tryd.prog ops Q i K a W := by
 obtain ⟨i0, hi0, hz0, hz1, hz2⟩ := info_parts Tryd.infoIntN
 refine wpOp_wp hio hw ?_
 have h0 := stepN_append (P := Tryd.prog) W (ops := ops) (o := o) (a := a) (K := K) (Q := Q) (E := False) hgd s x 30 ho base 3 i0 (.int .i64 0) 1 8 Tryd.underlying30 hi0 hz0 hz1 hz2 rfl (by decide) _ n xs hs hown ad m c (news.map (Value.int .i64)) hx (by rw [List.length_map, hl, Nat.mul_one]) hnews (intOne news) (by simp) (by unfold maxLen; omega) (by omega) hbase (fun g cap w' h1 h2 _ => h g cap w' h1 h2)
 rwa [if_pos hw] at h0
theorem exec_emptyN (W : World) (ρ : Operand → Value) (o : Oper) (ho : o.op = .buildSlice 30 0 #[]) :
  (execOp ρ o).run Tryd.prog W = .ok (.value (.slice (some ⟨W.heap.size, 0, none⟩) 0 0)) (W.alloc (.cells #[] 3)) := by
 unfold execOp
 simp only [ho, Sem.run_bind, Sem.run_pure, Result.andThen_ok]
 go_simp
theorem exec_boxN (W : World) (ρ : Operand → Value) (o : Oper) (y : Operand) (ho : o.op = .buildSlice 30 1 #[(0, y)]) (z : Int) (hx : ρ y = .int .i64 z) :
  (execOp ρ o).run Tryd.prog W = .ok (.value (.slice (some ⟨W.heap.size, 0, none⟩) 1 1)) (W.alloc (.cells #[.int .i64 z] 3)) := by
 unfold execOp
 simp only [ho, hx, Sem.run_bind, Sem.run_pure, Result.andThen_ok]
 go_simp
theorem exec_sliceTo (W : World) (ρ : Operand → Value) (o : Oper) (x y : Operand) (ho : o.op = .slice 30 x none (some y) none) (g n c k : Nat) (hx : ρ x = .slice (some ⟨g, 0, none⟩) n c) (hy : ρ y = .int .i64 (k : Int)) (hk : k ≤ c) :
  (execOp ρ o).run Tryd.prog W = .ok (.value (.slice (some ⟨g, 0, none⟩) k c)) W := by
 have h1 : (k : Int) ≤ (c : Int) := by omega
 have h2 : (0 : Int) ≤ (k : Int) := by omega
 unfold execOp
 simp only [ho, hx, hy, Sem.run_bind, Sem.run_pure, Result.andThen_ok, Option.map_some, Option.map_none]
 go_simp
theorem exec_sliceFrom (W : World) (ρ : Operand → Value) (o : Oper) (x y : Operand) (ho : o.op = .slice 30 x (some y) none none) (g n c k : Nat) (hx : ρ x = .slice (some ⟨g, 0, none⟩) n c) (hy : ρ y = .int .i64 (k : Int)) (hk : k ≤ n) (hn : n ≤ c) :
  (execOp ρ o).run Tryd.prog W = .ok (.value (.slice (some ⟨g, if c = k then 0 else k, none⟩) (n - k) (c - k))) W := by
 have h1 : (k : Int) ≤ (n : Int) := by omega
 have h2 : (0 : Int) ≤ (k : Int) := by omega
 have h3 : (n : Int) ≤ (c : Int) := by omega
 by_cases hc : c = k
 ·subst hc
  unfold execOp
  simp only [ho, hx, hy, Sem.run_bind, Sem.run_pure, Result.andThen_ok, Option.map_some, Option.map_none]
  go_simp
 ·rw [if_neg hc]
  unfold execOp
  simp only [ho, hx, hy, Sem.run_bind, Sem.run_pure, Result.andThen_ok, Option.map_some, Option.map_none]
  go_simp
theorem rbx_call3 (W : World) (a : Act) (o : Oper) (f : FuncId) (x y z : Operand) (t u r : TypeId) (ho : o.op = .call { callee := .value (.func f), args := #[x, y, z], argTypes := #[t, u, r] }) (v1 v2 v3 : Value) (h1 : a.eval x = v1) (h2 : a.eval y = v2) (h3 : a.eval z = v3)
  (hf : (callFunc f #[v1, v2, v3]).run Tryd.prog W = .ok (.enter f #[v1, v2, v3]) W) : (execOp a.eval o).run Tryd.prog W = .ok (.enter f #[v1, v2, v3]) W := by
 have hfn : a.eval (.func f) = .func (.func f) #[] #[] := rfl
 unfold execOp
 simp [ho, resolve, invoke, Deferred.ofValue, hfn, h1, h2, h3, hf]
theorem fromNews {W : World} {base g n c : Nat} {zs : List Int} (ho : W.ownsRow base 3 1 (.slice (some ⟨g, 0, none⟩) n c) n (zs.map (Value.int .i64))) (hz : zs.length = n) (hc : n ≤ c) (k : Nat) :
  ∀ j u, ((zs.drop k).map (Value.int .i64))[j]? = some u → W.cell? ((⟨g, if c = k then 0 else k, none⟩ : Addr).add j) = some u := by
 by_cases hck : c = k
 ·intro j u hu
  have := (List.getElem?_eq_some_iff.1 hu).1
  simp at this
  omega
 ·rw [if_neg hck]
  exact intNews ho k _ (fun j hj => by simp at hj; refine ⟨by omega, ?_⟩; simp)
theorem toNews {W : World} {base g n c : Nat} {zs : List Int} (ho : W.ownsRow base 3 1 (.slice (some ⟨g, 0, none⟩) n c) n (zs.map (Value.int .i64))) (hz : zs.length = n) (k : Nat) :
  ∀ j u, ((zs.take k).map (Value.int .i64))[j]? = some u → W.cell? ((⟨g, 0, none⟩ : Addr).add j) = some u :=
 intNews ho 0 _ (fun j hj => by
  rw [List.length_take] at hj
  refine ⟨by omega, ?_⟩
  simp [List.getElem?_take, (by omega : j < k)])
theorem below_setN {B g : Nat} {w W : World} (h : Below B w W) (hg : B ≤ g) (j : Nat) (u : Value) : Below B w (W.setCell ⟨g, j, none⟩ u) :=
 ⟨h.os, h.tape, h.output, by rw [World.size_setCell]; exact h.size, fun b hb => (heap_set_other W g j u b (by omega)).trans (h.block b hb)⟩
theorem begB_mono {L zs : List Int} {m n : Nat} (h : begB L zs n = true) (hm : m ≤ n) : begB L zs m = true := by
 unfold begB at h ⊢
 rw [List.all_eq_true] at h ⊢
 intro x hx
 exact h x (List.mem_range.2 (Nat.lt_of_lt_of_le (List.mem_range.1 hx) hm))
theorem beg_stop {L zs : List Int} {m n : Nat} {b : Bool} (h : false = (b && begB L zs m)) (hm : m ≤ n) : false = (b && begB L zs n) := by
 cases b with
 | false => rfl
 | true =>
  rw [Bool.true_and] at h ⊢
  cases hn : begB L zs n with
  | false => rfl
  | true => rw [begB_mono hn hm] at h; exact h
theorem own_cap {w : World} {base e g n c : Nat} {xs : List Value} (h : w.ownsRow base e 1 (.slice (some ⟨g, 0, none⟩) n c) n xs) : n ≤ c := by
 rcases h.2 with ⟨h', _⟩ | ⟨g', c', cur, h1, _, _, h2, _⟩
 ·simp at h'
 ·simp only [Value.slice.injEq, Option.some.injEq, Addr.mk.injEq, and_true, true_and] at h1
  obtain ⟨rfl, rfl⟩ := h1
  exact h2
end Go.Proofs.YtoinajfliogcdaaDoor

namespace Go.Proofs.YtoinajfliogcdaaDoor
open Go Go.RowKit
set_option linter.unusedVariables false
set_option linter.unusedSimpArgs false
set_option maxRecDepth 100000

set_option maxHeartbeats 8000000 in
theorem nearLaw_any (ao : Option Addr) (n cap : Nat) (ao2 : Option Addr) (n2 cap2 : Nat) (w : World) (hn : n ≤ maxLen) (hc : CodeIn w ao n) (hn2 : n2 ≤ maxLen) (hc2 : CodeIn w ao2 n2) (hT : Tabs w) :
  Calls Tryd.prog 3 #[.slice ao n cap, .slice ao2 n2 cap2] w fun e w' => e = .returned (.bool true) ∧ Below w.heap.size w w' := by
 have HT := hidd hT
 have HC := hidd hc
 have HC2 := hidd hc2
 clear hT hc hc2
 by_cases h1 : 1048576 < n
 ·have hz : (1048576 : Int) < (n : Int) := by omega
  go_enter Tryd.func3, Tryd.ntmps3
  go_wp2
  go_ret
  exact ⟨rfl, Below.refl _ _⟩
 have hz1 : ¬ (1048576 : Int) < (n : Int) := by omega
 by_cases h2 : 1048576 < n2
 ·have hz : (1048576 : Int) < (n2 : Int) := by omega
  go_enter Tryd.func3, Tryd.ntmps3
  go_wp2
  go_ret
  exact ⟨rfl, Below.refl _ _⟩
 have hz2 : ¬ (1048576 : Int) < (n2 : Int) := by omega
 go_enter Tryd.func3, Tryd.ntmps3
 go_wp2_with fail
 refine (drawFuzzy_any ao n cap _ (by omega) HC.out).mono ?_
 rintro e w1 ⟨s, k, head, rfl, hs, hb1⟩
 have HB1 := hidd hb1
 clear hb1
 go_wp2_with fail
 refine (specFuzzy_any s k head _ hs).mono ?_
 rintro e w2 hsp
 obtain ⟨code, ad, nn, cc, rfl, hb2, hall⟩ := near_join hsp
 have HAll := hidd hall
 obtain ⟨hbx, hnx⟩ := box_dfa w2 (.slice ad nn cc)
 have HB2 := hidd (HB1.out.trans ((hb2.trans (hbx.mono hb2.size)).mono HB1.out.size))
 clear hsp hall hb2 hbx hnx HB1
 go_upto_region 5 with fail
 generalize w2.alloc (.cells #[.slice ad nn cc] 27) = W2 at *
 have HI := hidd (implFuzzy_any s k head W2 hs (HT.out.below HB2.out))
 go_wp2_with fail
 refine HI.out.mono ?_
 rintro e w3 hi
 obtain ⟨a2, c2, D, rfl, hD, hb3, hok⟩ := HAll.out _ _ _ hi
 have HD3 := hidd hD
 have HOk := hidd hok
 obtain ⟨hbx, hnx⟩ := box_dfa w3 (.slice a2 D.length c2)
 have HB3 := hidd (HB2.out.trans ((hb3.trans (hbx.mono hb3.size)).mono HB2.out.size))
 have HX3 := hidd hnx
 have HD4 := hidd (hD.below hbx)
 have hcc : (code != code) = false := by simp
 clear hi hD hb3 hok hbx hnx HD3 HI HAll HB2
 go_upto_region 6 with fail
 generalize w3.alloc (.cells #[.slice a2 D.length c2] 27) = W3 at *
 generalize w3.heap.size = b3 at *
 by_cases h0 : code = 0
 ·obtain ⟨k', head', rfl, rfl, hnear⟩ := HOk.out h0
  subst h0
  have HNear := hidd hnear
  obtain ⟨hl30, hk2, hhd, -, -, -⟩ := hnear
  clear HOk
  go_wp2_with fail
  refine (specDecode_any s _ hs).mono ?_
  rintro e w5 ⟨v, rfl, hv, hb5⟩
  obtain ⟨L, hL⟩ : ∃ L, L = decList s := ⟨_, rfl⟩
  rw [← hL] at hv hl30 hhd
  have HV := hidd hv
  have HB5 := hidd (HB3.out.trans (hb5.mono HB3.out.size))
  have HX5 := hidd (blko HX3.out hb5)
  have HD5 := hidd (HD4.out.below hb5)
  have HL := hidd hL
  have HCW : Hid (∀ W, Below w5.heap.size w5 W → CodeIn W ao2 n2) := fun W hW => HC2.out.below (HB5.out.trans (hW.mono HB5.out.size))
  clear hv hb5 hL HB3 HX3 HD4 hcc
  go_wp2_with fail
  go_loopw [14] (fun iv wr => ∃ i : Nat, i ≤ 6 ∧ iv = .int .i64 (i : Int) ∧ Below w5.heap.size w5 wr) (fun iv _ => 6 - (intOf iv).toNat)
  case atStart => exact ⟨0, by omega, rfl, Below.refl _ _⟩
  case round =>
   obtain ⟨i, hi6, rfl, hbr⟩ := hrel
   have HBr := hidd hbr
   clear hbr
   by_cases hi : i < 6
   ·have hiz : (i : Int) < 6 := by omega
    obtain ⟨i0, hi0, hz0, hz3, hz4⟩ := info_parts Tryd.infoIntN
    have HVr := hidd (own_below (own_below HV.out HBr.out) ((Below.refl wr.heap.size wr).alloc (Nat.le_refl _) (.cells #[] 3)))
    go_upto_region 15 with (at_builtin; refine wpList_append_rowN _ rfl _ _ 30 rfl wr.heap.size 3 i0 (.int .i64 0) 8 Tryd.underlying30 hi0 hz0 hz3 hz4 rfl wr.heap.size rfl (ownEN wr rfl) v L.length _ (L.map (Value.int .i64)) rfl HVr.out (intOne L) (by unfold maxLen; omega) (by omega) (by simp) ?_; intro g c w6 hown6 hgrow6)
    have hb6 : Below wr.heap.size wr w6 := ((Below.refl _ _).alloc (Nat.le_refl _) _).grown hgrow6 (by simp) (fun k hk => by simp at hk; omega)
    have HB6 := hidd (HBr.out.trans (hb6.mono HBr.out.size))
    have HO6 := hidd (own_mono hown6 HBr.out.size)
    have HChr : Hid (∀ z ∈ L, chr z = true) := fun z hz => decList_chr s z (by rw [← HL.out]; exact hz)
    clear hb6 hown6 hgrow6 HVr
    go_wp2_with fail
    go_loopw [15, 16] (fun nv jv wt => ∃ (j : Nat) (zs : List Int) (g c : Nat), j ≤ 1 + i / 2 ∧ jv = .int .i64 (j : Int) ∧ nv = .slice (some ⟨g, 0, none⟩) zs.length c ∧ wt.ownsRow w5.heap.size 3 1 (.slice (some ⟨g, 0, none⟩) zs.length c) zs.length (zs.map (Value.int .i64)) ∧ (∀ z ∈ zs, chr z = true) ∧ zs.length ≤ 30 + j ∧ Below w5.heap.size w5 wt) (fun _ jv _ => 4 - (intOf jv).toNat)
    case atStart => exact ⟨0, L, g, c, by omega, rfl, rfl, HO6.out, HChr.out, by omega, HB6.out⟩
    case round =>
     obtain ⟨j, zs, g, c, hj3, rfl, rfl, hown, hzs, hlen, hbt⟩ := hrel
     have HO := hidd hown
     have HZ := hidd hzs
     have HBt := hidd hbt
     clear hown hzs hbt HO6 HB6 HChr
     have hq : Int.tdiv (i : Int) 2 = ((i / 2 : Nat) : Int) := rfl
     obtain ⟨M, hM⟩ : ∃ M, M = i / 2 := ⟨_, rfl⟩
     rw [← hM] at hq hj3
     have hM2 : M ≤ 2 := by omega
     by_cases hj : j < 1 + M
     ·have hjz : (j : Int) < 1 + (M : Int) := by omega
      have HA1 := hidd (lawAtB_any ao2 n2 cap2 (3 * i + j) (zs.length + 1) wr (by omega) (by omega) (by omega) (by omega) (HCW.out wr HBt.out))
      rw [show ((3 * i + j : Nat) : Int) = 3 * (i : Int) + (j : Int) from by omega, show ((zs.length + 1 : Nat) : Int) = (zs.length : Int) + 1 from by omega] at HA1
      go_wp2_with fail
      refine HA1.out.mono ?_
      rintro e wa ⟨x, rfl, hx, hga⟩
      have hba := HBt.out.grown hga HBt.out.size (fun k hk => by simp at hk)
      have HBa := hidd hba
      have HOa := hidd (own_grownN HO.out hga (fun b _ => by simp))
      have HA2 := hidd (lawAtB_any ao2 n2 cap2 (i + j) 3 wa (by omega) (by omega) (by omega) (by omega) (HCW.out wa hba))
      rw [show ((i + j : Nat) : Int) = (i : Int) + (j : Int) from by omega, show ((3 : Nat) : Int) = 3 from rfl] at HA2
      clear hga hba HA1 HO HBt
      go_wp2_with fail
      refine HA2.out.mono ?_
      rintro e wb ⟨y, rfl, hy, hgb⟩
      have HBb := hidd (HBa.out.grown hgb HBa.out.size (fun k hk => by simp at hk))
      have HOb := hidd (own_grownN HOa.out hgb (fun b _ => by simp))
      clear hgb HA2 HOa HBa
      by_cases hy0 : y = 0
      ·subst hy0
       go_upto_region 23 with fail
       have hcl := own_cap HOb.out
       refine wp_region_held (S := fun _ => True) (by kernel_rfl) ?_
       have hbd : Below wb.heap.size wb ({ heap := wb.heap, tape := wb.tape, drawn := wb.drawn + 1, os := wb.os, output := wb.output } : World) := (Below.refl _ _).drew
       generalize ({ heap := wb.heap, tape := wb.tape, drawn := wb.drawn + 1, os := wb.os, output := wb.output } : World) = Wd at *
       have HOd := hidd (own_below HOb.out hbd)
       have HBd := hidd (HBb.out.trans (hbd.mono HBb.out.size))
       clear hbd HOb HBb
       try simp only [Act.put, List.getElem_toArray, List.getElem_cons_succ, List.getElem_cons_zero, List.setIfInBounds_toArray, List.set_cons_zero, List.set_cons_succ]
       refine tkX 1 (v := .slice (some ⟨g, 0, none⟩) zs.length c) (hS := trivial) (h := ?_)
       try simp only [Act.put, List.getElem_toArray, List.getElem_cons_succ, List.getElem_cons_zero, List.setIfInBounds_toArray, List.set_cons_zero, List.set_cons_succ]
       refine tkX 2 (v := .int .i64 (x : Int)) (hS := trivial) (h := ?_)
       try simp only [Act.put, List.getElem_toArray, List.getElem_cons_succ, List.getElem_cons_zero, List.setIfInBounds_toArray, List.set_cons_zero, List.set_cons_succ]
       refine wpAnyH_take (i := 3) (v := .slice (some ⟨g, 0, none⟩) x c) rfl (by kernel_rfl) (by kernel_rfl) (by kernel_rfl) (fun _ _ _ h => h) (Or.inl ⟨by kernel_rfl, fun W hW => exec_sliceTo W _ _ _ _ rfl g zs.length c x (by kernel_rfl) (by kernel_rfl) (by omega)⟩) trivial ?_
       try simp only [Act.put, List.getElem_toArray, List.getElem_cons_succ, List.getElem_cons_zero, List.setIfInBounds_toArray, List.set_cons_zero, List.set_cons_succ]
       refine tkX 5 (v := .slice ao2 n2 cap2) (hS := trivial) (h := ?_)
       try simp only [Act.put, List.getElem_toArray, List.getElem_cons_succ, List.getElem_cons_zero, List.setIfInBounds_toArray, List.set_cons_zero, List.set_cons_succ]
       refine tkX 6 (v := .int .i64 (j : Int)) (hS := trivial) (h := ?_)
       try simp only [Act.put, List.getElem_toArray, List.getElem_cons_succ, List.getElem_cons_zero, List.setIfInBounds_toArray, List.set_cons_zero, List.set_cons_succ]
       refine tkX 11 (v := .slice (some ⟨g, 0, none⟩) zs.length c) (hS := trivial) (h := ?_)
       try simp only [Act.put, List.getElem_toArray, List.getElem_cons_succ, List.getElem_cons_zero, List.setIfInBounds_toArray, List.set_cons_zero, List.set_cons_succ]
       refine tkX 12 (v := .int .i64 (x : Int)) (hS := trivial) (h := ?_)
       try simp only [Act.put, List.getElem_toArray, List.getElem_cons_succ, List.getElem_cons_zero, List.setIfInBounds_toArray, List.set_cons_zero, List.set_cons_succ]
       refine wpAnyH_take (i := 13) (v := .slice (some ⟨g, if c = x then 0 else x, none⟩) (zs.length - x) (c - x)) rfl (by kernel_rfl) (by kernel_rfl) (by kernel_rfl) (fun _ _ _ h => h) (Or.inl ⟨by kernel_rfl, fun W hW => exec_sliceFrom W _ _ _ _ rfl g zs.length c x (by kernel_rfl) (by kernel_rfl) (by omega) (by omega)⟩) trivial ?_
       try simp only [Act.put, List.getElem_toArray, List.getElem_cons_succ, List.getElem_cons_zero, List.setIfInBounds_toArray, List.set_cons_zero, List.set_cons_succ]
       refine wpAnyH_one 0 (by kernel_rfl) ?_
       refine wpOp_val _ _ rfl (by kernel_rfl) (exec_emptyN _ _ _ rfl) ?_
       have HE1 := hidd (ownEN Wd rfl)
       have HOe := hidd (own_below HOd.out ((Below.refl Wd.heap.size Wd).alloc (Nat.le_refl _) (.cells #[] 3)))
       have HBe := hidd (HBd.out.trans (((Below.refl Wd.heap.size Wd).alloc (Nat.le_refl _) (.cells #[] 3)).mono HBd.out.size))
       have hse : w5.heap.size ≤ Wd.heap.size := HBd.out.size
       have hge := own_lt HOd.out
       have hss : (Wd.alloc (.cells #[] 3)).heap.size = Wd.heap.size + 1 := by simp
       generalize Wd.alloc (.cells #[] 3) = We at *
       obtain ⟨Y, hY⟩ : ∃ Y, Wd.heap.size = Y := ⟨_, rfl⟩
       rw [hY] at HE1 hse hge hss
       simp only [hY]
       refine ⟨trivial, ?_⟩
       try simp only [Act.put, List.getElem_toArray, List.getElem_cons_succ, List.getElem_cons_zero, List.setIfInBounds_toArray, List.set_cons_zero, List.set_cons_succ]
       refine wpAnyH_one 4 (by kernel_rfl) ?_
       refine wpOp_appN rfl (by kernel_rfl) rfl (.tmp 105) (.tmp 108) rfl Y Y 0 (0) ([]) (by kernel_rfl) HE1.out ⟨g, 0, none⟩ (x) (c) (zs.take x) (by kernel_rfl) (by rw [List.length_take]; omega) (toNews HOe.out rfl x) (by omega) (by omega) ?_
       rintro g1 c1 Wf ho_ hg_
       refine ⟨trivial, ?_⟩
       rw [List.nil_append, Nat.zero_add] at ho_
       try rw [Nat.zero_add]
       have HO1 := hidd ho_
       have hne : ∀ b, (Value.slice (some ⟨g, 0, none⟩) zs.length c).ownBlock = some b → some b ≠ some Y := fun b hb e => by simp [Value.ownBlock] at hb e; omega
       have HOf := hidd (own_grownN HOe.out hg_ hne)
       have HBf := hidd (HBe.out.grown hg_ (by omega) (fun k hk => by simp at hk; omega))
       have hsf := hg_.size
       have hg1 := own_lt ho_
       have hbk : Y ≤ g1 := own_block ho_ _ rfl
       clear hg_ ho_ HE1 HOe HBe HOd HBd hne
       try simp only [Act.put, List.getElem_toArray, List.getElem_cons_succ, List.getElem_cons_zero, List.setIfInBounds_toArray, List.set_cons_zero, List.set_cons_succ]
       refine wpAnyH_one 7 (by kernel_rfl) ?_
       refine wpOp_call 11 #[.slice ao2 n2 cap2, .int .i64 (j : Int), .int .i64 4] rfl (by kernel_rfl) (rbx_call3 _ _ _ _ _ _ _ _ _ _ rfl _ _ _ (by kernel_rfl) (by kernel_rfl) (by kernel_rfl) (Tryd.call11 _ _)) ?_
       have HA3 : Hid (Calls Tryd.prog 11 #[.slice ao2 n2 cap2, .int .i64 (j : Int), .int .i64 4] Wf fun e w' => ∃ x : Nat, e = .returned (.int .i64 (x : Int)) ∧ x < 4 ∧ Wf.grownBy w' none) := lawAtB_any ao2 n2 cap2 j 4 Wf (by omega) (by omega) (by omega) (by omega) (HCW.out Wf HBf.out)
       refine HA3.out.mono ?_
       rintro e Wh ⟨q, rfl, hq4, hgh⟩
       refine ⟨trivial, ?_⟩
       have HOh := hidd (own_grownN HOf.out hgh (fun b _ => by simp))
       have HO1h := hidd (own_grownN HO1.out hgh (fun b _ => by simp))
       have HBh := hidd (HBf.out.grown hgh HBf.out.size (fun k hk => by simp at hk))
       have hsh := hgh.size
       clear hgh HA3 HOf HO1 HBf
       try simp only [Act.put, List.getElem_toArray, List.getElem_cons_succ, List.getElem_cons_zero, List.setIfInBounds_toArray, List.set_cons_zero, List.set_cons_succ]
       refine wpAnyH_take (i := 8) (v := .int .i64 (97 + (q : Int))) rfl (by kernel_rfl) (by kernel_rfl) (by kernel_rfl) (fun _ _ _ h => h) (Or.inl ⟨by kernel_rfl, fun W hW => exec_addI W _ _ _ _ rfl 97 (q : Int) (by kernel_rfl) (by kernel_rfl) (by omega) (by omega)⟩) trivial ?_
       try simp only [Act.put, List.getElem_toArray, List.getElem_cons_succ, List.getElem_cons_zero, List.setIfInBounds_toArray, List.set_cons_zero, List.set_cons_succ]
       refine wpAnyH_one 9 (by kernel_rfl) ?_
       refine wpOp_val _ _ rfl (by kernel_rfl) (exec_boxN _ _ _ _ rfl (97 + (q : Int)) (by kernel_rfl)) ?_
       have hbi := (Below.refl Wh.heap.size Wh).alloc (Nat.le_refl _) (.cells #[.int .i64 (97 + (q : Int))] 3)
       have HOi := hidd (own_below HOh.out hbi)
       have HO1i := hidd (own_below HO1h.out hbi)
       have HBi := hidd (HBh.out.trans (hbi.mono HBh.out.size))
       have HN9 := hidd (cell_one_new Wh (.int .i64 (97 + (q : Int))) 3)
       have hsi : (Wh.alloc (.cells #[.int .i64 (97 + (q : Int))] 3)).heap.size = Wh.heap.size + 1 := by simp
       generalize Wh.alloc (.cells #[.int .i64 (97 + (q : Int))] 3) = Wi at *
       generalize Wh.heap.size = Z at *
       clear hbi HOh HO1h HBh
       refine ⟨trivial, ?_⟩
       try simp only [Act.put, List.getElem_toArray, List.getElem_cons_succ, List.getElem_cons_zero, List.setIfInBounds_toArray, List.set_cons_zero, List.set_cons_succ]
       refine wpAnyH_one 10 (by kernel_rfl) ?_
       refine wpOp_appN rfl (by kernel_rfl) rfl (.tmp 109) (.tmp 114) rfl Y g1 c1 (x) ((zs.take x).map (Value.int .i64)) (by kernel_rfl) HO1i.out ⟨Z, 0, none⟩ (1) (1) ([97 + (q : Int)]) (by kernel_rfl) (rfl) (HN9.out) (by omega) (by omega) ?_
       rintro g3 c3 Wj ho_ hg_
       refine ⟨trivial, ?_⟩
       have HO3 := hidd ho_
       have hne : ∀ b, (Value.slice (some ⟨g, 0, none⟩) zs.length c).ownBlock = some b → some b ≠ some g1 := fun b hb e => by simp [Value.ownBlock] at hb e; omega
       have HOj := hidd (own_grownN HOi.out hg_ hne)
       have HBj := hidd (HBi.out.grown hg_ (by omega) (fun k hk => by simp at hk; omega))
       have hsj := hg_.size
       have hbk3 : Y ≤ g3 := own_block ho_ _ rfl
       clear hg_ ho_ HOi HO1i HBi hne HN9
       try simp only [Act.put, List.getElem_toArray, List.getElem_cons_succ, List.getElem_cons_zero, List.setIfInBounds_toArray, List.set_cons_zero, List.set_cons_succ]
       refine wpAnyH_one 14 (by kernel_rfl) ?_
       refine wpOp_appN rfl (by kernel_rfl) rfl (.tmp 115) (.tmp 118) rfl Y g3 c3 (x + 1) ((zs.take x).map (Value.int .i64) ++ [97 + (q : Int)].map (Value.int .i64)) (by kernel_rfl) HO3.out ⟨g, if c = x then 0 else x, none⟩ (zs.length - x) (c - x) (zs.drop x) (by kernel_rfl) (by rw [List.length_drop]) (fromNews HOj.out rfl hcl x) (by omega) (by omega) ?_
       rintro g2 c2q Wg ho_ hg_
       refine ⟨trivial, ?_⟩
       have HBg := hidd (HBj.out.grown hg_ (by omega) (fun k hk => by simp at hk; omega))
       obtain ⟨zq, hzq⟩ : ∃ l, l = zs.take x ++ (97 + (q : Int)) :: zs.drop x := ⟨_, rfl⟩
       have eL : x + 1 + (zs.length - x) = zq.length := by rw [hzq]; simp; omega
       have eM : (zs.take x).map (Value.int .i64) ++ [97 + (q : Int)].map (Value.int .i64) ++ (zs.drop x).map (Value.int .i64) = zq.map (Value.int .i64) := by rw [hzq]; simp
       have HZ2 : Hid (∀ z ∈ zq, chr z = true) := fun z hz => by
        rw [hzq] at hz
        rcases List.mem_append.1 hz with h | h
        ·exact HZ.out z (List.mem_of_mem_take h)
        ·rcases List.mem_cons.1 h with rfl | h
         ·exact (chr_iff _).2 ⟨by omega, by omega, by omega⟩
         ·exact HZ.out z (List.mem_of_mem_drop h)
       have hzl : zq.length ≤ 31 + j := by omega
       rw [eL, eM] at ho_
       rw [eL]
       have HO2 := hidd (own_mono ho_ hse)
       clear ho_ hg_ HO3 HOj HBj hzq eM eL
       try simp only [Act.put, List.getElem_toArray, List.getElem_cons_succ, List.getElem_cons_zero, List.setIfInBounds_toArray, List.set_cons_zero, List.set_cons_succ]
       refine tkX 15 (v := .slice (some ⟨g2, 0, none⟩) zq.length c2q) (hS := trivial) (h := ?_)
       try simp only [Act.put, List.getElem_toArray, List.getElem_cons_succ, List.getElem_cons_zero, List.setIfInBounds_toArray, List.set_cons_zero, List.set_cons_succ]
       refine wpAnyH_done (by kernel_rfl) ?_ _
       go_wp2_with fail
       refine ⟨⟨j + 1, zq, g2, c2q, by omega, by go_num, rfl, HO2.out, HZ2.out, by omega, HBg.out⟩, by simp [intOf]; omega⟩
      by_cases hy1 : y = 1
      ·subst hy1
       by_cases hxl : x < zs.length
       ·have hxz : (x : Int) < (zs.length : Int) := by omega
        go_upto_region 26 with fail
        have hcl := own_cap HOb.out
        refine wp_region_held (S := fun _ => True) (by kernel_rfl) ?_
        have hbd : Below wb.heap.size wb ({ heap := wb.heap, tape := wb.tape, drawn := wb.drawn + 1, os := wb.os, output := wb.output } : World) := (Below.refl _ _).drew
        generalize ({ heap := wb.heap, tape := wb.tape, drawn := wb.drawn + 1, os := wb.os, output := wb.output } : World) = Wd at *
        have HOd := hidd (own_below HOb.out hbd)
        have HBd := hidd (HBb.out.trans (hbd.mono HBb.out.size))
        clear hbd HOb HBb
        try simp only [Act.put, List.getElem_toArray, List.getElem_cons_succ, List.getElem_cons_zero, List.setIfInBounds_toArray, List.set_cons_zero, List.set_cons_succ]
        refine tkX 1 (v := .slice (some ⟨g, 0, none⟩) zs.length c) (hS := trivial) (h := ?_)
        try simp only [Act.put, List.getElem_toArray, List.getElem_cons_succ, List.getElem_cons_zero, List.setIfInBounds_toArray, List.set_cons_zero, List.set_cons_succ]
        refine tkX 2 (v := .int .i64 (x : Int)) (hS := trivial) (h := ?_)
        try simp only [Act.put, List.getElem_toArray, List.getElem_cons_succ, List.getElem_cons_zero, List.setIfInBounds_toArray, List.set_cons_zero, List.set_cons_succ]
        refine wpAnyH_take (i := 3) (v := .slice (some ⟨g, 0, none⟩) x c) rfl (by kernel_rfl) (by kernel_rfl) (by kernel_rfl) (fun _ _ _ h => h) (Or.inl ⟨by kernel_rfl, fun W hW => exec_sliceTo W _ _ _ _ rfl g zs.length c x (by kernel_rfl) (by kernel_rfl) (by omega)⟩) trivial ?_
        try simp only [Act.put, List.getElem_toArray, List.getElem_cons_succ, List.getElem_cons_zero, List.setIfInBounds_toArray, List.set_cons_zero, List.set_cons_succ]
        refine tkX 5 (v := .slice (some ⟨g, 0, none⟩) zs.length c) (hS := trivial) (h := ?_)
        try simp only [Act.put, List.getElem_toArray, List.getElem_cons_succ, List.getElem_cons_zero, List.setIfInBounds_toArray, List.set_cons_zero, List.set_cons_succ]
        refine tkX 6 (v := .int .i64 (x : Int)) (hS := trivial) (h := ?_)
        try simp only [Act.put, List.getElem_toArray, List.getElem_cons_succ, List.getElem_cons_zero, List.setIfInBounds_toArray, List.set_cons_zero, List.set_cons_succ]
        refine wpAnyH_take (i := 7) (v := .int .i64 ((x : Int) + 1)) rfl (by kernel_rfl) (by kernel_rfl) (by kernel_rfl) (fun _ _ _ h => h) (Or.inl ⟨by kernel_rfl, fun W hW => exec_addI W _ _ _ _ rfl (x : Int) 1 (by kernel_rfl) (by kernel_rfl) (by omega) (by omega)⟩) trivial ?_
        have ex1 : (x : Int) + 1 = ((x + 1 : Nat) : Int) := by omega
        rw [ex1]
        clear ex1
        try simp only [Act.put, List.getElem_toArray, List.getElem_cons_succ, List.getElem_cons_zero, List.setIfInBounds_toArray, List.set_cons_zero, List.set_cons_succ]
        refine wpAnyH_take (i := 8) (v := .slice (some ⟨g, if c = x + 1 then 0 else x + 1, none⟩) (zs.length - (x + 1)) (c - (x + 1))) rfl (by kernel_rfl) (by kernel_rfl) (by kernel_rfl) (fun _ _ _ h => h) (Or.inl ⟨by kernel_rfl, fun W hW => exec_sliceFrom W _ _ _ _ rfl g zs.length c (x + 1) (by kernel_rfl) (by kernel_rfl) (by omega) (by omega)⟩) trivial ?_
        try simp only [Act.put, List.getElem_toArray, List.getElem_cons_succ, List.getElem_cons_zero, List.setIfInBounds_toArray, List.set_cons_zero, List.set_cons_succ]
        refine wpAnyH_one 0 (by kernel_rfl) ?_
        refine wpOp_val _ _ rfl (by kernel_rfl) (exec_emptyN _ _ _ rfl) ?_
        have HE1 := hidd (ownEN Wd rfl)
        have HOe := hidd (own_below HOd.out ((Below.refl Wd.heap.size Wd).alloc (Nat.le_refl _) (.cells #[] 3)))
        have HBe := hidd (HBd.out.trans (((Below.refl Wd.heap.size Wd).alloc (Nat.le_refl _) (.cells #[] 3)).mono HBd.out.size))
        have hse : w5.heap.size ≤ Wd.heap.size := HBd.out.size
        have hge := own_lt HOd.out
        have hss : (Wd.alloc (.cells #[] 3)).heap.size = Wd.heap.size + 1 := by simp
        generalize Wd.alloc (.cells #[] 3) = We at *
        obtain ⟨Y, hY⟩ : ∃ Y, Wd.heap.size = Y := ⟨_, rfl⟩
        rw [hY] at HE1 hse hge hss
        simp only [hY]
        refine ⟨trivial, ?_⟩
        try simp only [Act.put, List.getElem_toArray, List.getElem_cons_succ, List.getElem_cons_zero, List.setIfInBounds_toArray, List.set_cons_zero, List.set_cons_succ]
        refine wpAnyH_one 4 (by kernel_rfl) ?_
        refine wpOp_appN rfl (by kernel_rfl) rfl (.tmp 126) (.tmp 129) rfl Y Y 0 (0) ([]) (by kernel_rfl) HE1.out ⟨g, 0, none⟩ (x) (c) (zs.take x) (by kernel_rfl) (by rw [List.length_take]; omega) (toNews HOe.out rfl x) (by omega) (by omega) ?_
        rintro g1 c1 Wf ho_ hg_
        refine ⟨trivial, ?_⟩
        rw [List.nil_append, Nat.zero_add] at ho_
        try rw [Nat.zero_add]
        have HO1 := hidd ho_
        have hne : ∀ b, (Value.slice (some ⟨g, 0, none⟩) zs.length c).ownBlock = some b → some b ≠ some Y := fun b hb e => by simp [Value.ownBlock] at hb e; omega
        have HOf := hidd (own_grownN HOe.out hg_ hne)
        have HBf := hidd (HBe.out.grown hg_ (by omega) (fun k hk => by simp at hk; omega))
        have hsf := hg_.size
        have hg1 := own_lt ho_
        have hbk : Y ≤ g1 := own_block ho_ _ rfl
        clear hg_ ho_ HE1 HOe HBe HOd HBd hne
        try simp only [Act.put, List.getElem_toArray, List.getElem_cons_succ, List.getElem_cons_zero, List.setIfInBounds_toArray, List.set_cons_zero, List.set_cons_succ]
        refine wpAnyH_one 9 (by kernel_rfl) ?_
        refine wpOp_appN rfl (by kernel_rfl) rfl (.tmp 130) (.tmp 134) rfl Y g1 c1 (x) ((zs.take x).map (Value.int .i64)) (by kernel_rfl) HO1.out ⟨g, if c = x + 1 then 0 else x + 1, none⟩ (zs.length - (x + 1)) (c - (x + 1)) (zs.drop (x + 1)) (by kernel_rfl) (by rw [List.length_drop]) (fromNews HOf.out rfl hcl (x + 1)) (by omega) (by omega) ?_
        rintro g2 c2q Wg ho_ hg_
        refine ⟨trivial, ?_⟩
        have HBg := hidd (HBf.out.grown hg_ (by omega) (fun k hk => by simp at hk; omega))
        obtain ⟨zq, hzq⟩ : ∃ l, l = zs.take x ++ zs.drop (x + 1) := ⟨_, rfl⟩
        have eL : x + (zs.length - (x + 1)) = zq.length := by rw [hzq]; simp; omega
        have eM : (zs.take x).map (Value.int .i64) ++ (zs.drop (x + 1)).map (Value.int .i64) = zq.map (Value.int .i64) := by rw [hzq]; simp
        have HZ2 : Hid (∀ z ∈ zq, chr z = true) := fun z hz => by
         rw [hzq] at hz
         rcases List.mem_append.1 hz with h | h
         ·exact HZ.out z (List.mem_of_mem_take h)
         ·exact HZ.out z (List.mem_of_mem_drop h)
        have hzl : zq.length ≤ 30 + j := by omega
        rw [eL, eM] at ho_
        rw [eL]
        have HO2 := hidd (own_mono ho_ hse)
        clear ho_ hg_ HO1 HOf HBf hzq eM eL
        try simp only [Act.put, List.getElem_toArray, List.getElem_cons_succ, List.getElem_cons_zero, List.setIfInBounds_toArray, List.set_cons_zero, List.set_cons_succ]
        refine tkX 10 (v := .slice (some ⟨g2, 0, none⟩) zq.length c2q) (hS := trivial) (h := ?_)
        try simp only [Act.put, List.getElem_toArray, List.getElem_cons_succ, List.getElem_cons_zero, List.setIfInBounds_toArray, List.set_cons_zero, List.set_cons_succ]
        refine wpAnyH_done (by kernel_rfl) ?_ _
        go_wp2_with fail
        refine ⟨⟨j + 1, zq, g2, c2q, by omega, by go_num, rfl, HO2.out, HZ2.out, by omega, HBg.out⟩, by simp [intOf]; omega⟩
       ·have hxz : ¬ (x : Int) < (zs.length : Int) := by omega
        go_wp2_with fail
        refine ⟨⟨j + 1, zs, g, c, by omega, by go_num, rfl, HOb.out, HZ.out, by omega, HBb.out⟩, by simp [intOf]; omega⟩
      obtain rfl : y = 2 := by omega
      by_cases hxl : x < zs.length
      ·have hxz : (x : Int) < (zs.length : Int) := by omega
       have HA3 : Hid (Calls Tryd.prog 11 #[.slice ao2 n2 cap2, .int .i64 (i : Int), .int .i64 3] wb fun e w' => ∃ x : Nat, e = .returned (.int .i64 (x : Int)) ∧ x < 3 ∧ wb.grownBy w' none) := lawAtB_any ao2 n2 cap2 i 3 wb (by omega) (by omega) (by omega) (by omega) (HCW.out wb HBb.out)
       go_wp2_with fail
       refine HA3.out.mono ?_
       rintro e wc ⟨q, rfl, hq4, hgh⟩
       have HOc := hidd (own_grownN HOb.out hgh (fun b _ => by simp))
       have HBc := hidd (HBb.out.grown hgh HBb.out.size (fun k hk => by simp at hk))
       clear hgh HA3 HOb HBb
       have hcell : wc.cell? ⟨g, x, none⟩ = some (.int .i64 (zs.getD x 0)) := by
        rw [HOc.out.cellAt x (by omega)]
        simp [List.getD_eq_getElem?_getD, hxl]
       have hfro := own_frozenk HOc.out x
       have R1 := own_setG HOc.out (.int .i64 (97 + (q : Int))) (j := x) (by rw [List.length_map]; exact hxl)
       rw [← List.map_set] at R1
       have hbk : w5.heap.size ≤ g := own_block HOc.out _ rfl
       have HBs := hidd (below_setN HBc.out hbk x (.int .i64 (97 + (q : Int))))
       obtain ⟨zq, hzq⟩ : ∃ l, l = zs.set x (97 + (q : Int)) := ⟨_, rfl⟩
       have eL : zs.length = zq.length := by rw [hzq, List.length_set]
       rw [← hzq] at R1
       have R2 : (wc.setCell ⟨g, x, none⟩ (.int .i64 (97 + (q : Int)))).ownsRow w5.heap.size 3 1 (.slice (some ⟨g, 0, none⟩) zq.length c) zq.length (zq.map (Value.int .i64)) := by rw [← eL]; exact R1
       have HR := hidd R2
       have HEL := hidd eL
       have HZ2 : Hid (∀ z ∈ zq, chr z = true) := fun z hz => by
        rw [hzq] at hz
        rcases List.mem_or_eq_of_mem_set hz with h | h
        ·exact HZ.out z h
        ·rw [h]
         exact (chr_iff _).2 ⟨by omega, by omega, by omega⟩
       clear R1 R2 hzq eL hbk HBc HOc
       go_wp2_with fail
       refine ⟨⟨j + 1, zq, g, c, by omega, by go_num, by rw [HEL.out], HR.out, HZ2.out, by have := HEL.out; omega, HBs.out⟩, by simp [intOf]; omega⟩
      ·have hxz : ¬ (x : Int) < (zs.length : Int) := by omega
       go_wp2_with fail
       refine ⟨⟨j + 1, zs, g, c, by omega, by go_num, rfl, HOb.out, HZ.out, by omega, HBb.out⟩, by simp [intOf]; omega⟩
     ·have hjz : ¬ (j : Int) < 1 + (M : Int) := by omega
      have hj2 : zs.length ≤ 33 := by omega
      have HEnc := hidd (specEncode_any g 0 zs.length c zs wr (by omega) rfl (own_lt HO.out) (fun t ht => by rw [Nat.zero_add, HO.out.cellAt t (by omega)]; simp [List.getD_eq_getElem?_getD, ht]))
      obtain ⟨t1, t2, t3, t4, t5, t6⟩ := near_text HZ.out (by omega : zs.length ≤ 200)
      obtain ⟨q1, q2, q3⟩ := near_ask HNear.out HZ.out (by omega : zs.length ≤ 200)
      have HT5 := hidd t5
      have HQ := hidd (And.intro q1 (And.intro q2 q3))
      rw [t1] at HEnc
      clear t1 t3 t4 t5 t6 q1 q2 q3
      generalize (⟨(ansText zs).toArray⟩ : ByteArray) = tx at *
      go_wp2_with fail
      refine HEnc.out.mono ?_
      rintro e wc ⟨rfl, hbc⟩
      have HBc := hidd (HBt.out.trans (hbc.mono HBt.out.size))
      have HOc := hidd (own_below HO.out hbc)
      clear hbc HEnc HO HBt
      have HEd := hidd (implEdits_any s tx wc hs (by omega) (HT.out.below (HB5.out.trans (HBc.out.mono HB5.out.size))))
      rw [HQ.out.1, HQ.out.2.1] at HEd
      go_wp2_with fail
      refine HEd.out.mono ?_
      rintro e wd ⟨rfl, hbd⟩
      have HBd := hidd (HBc.out.trans (hbd.mono HBc.out.size))
      have HOd := hidd (own_below HOc.out hbd)
      clear hbd HEd HOc HBc
      obtain ⟨ed, hed⟩ : ∃ ed, ed = edits (decList s) zs := ⟨_, rfl⟩
      rw [← hed]
      have HED := hidd hed
      clear hed
      go_wp2_with fail
      go_loopw [22, 23] (fun bv jv wt => ∃ (m : Nat) (B : Bool), m ≤ head' ∧ jv = .int .i64 (m : Int) ∧ bv = .bool B ∧ Hid (B = (decide (head' ≤ zs.length) && begB L zs m)) ∧ Below w5.heap.size w5 wt ∧ Hid (wt.ownsRow w5.heap.size 3 1 (.slice (some ⟨g, 0, none⟩) zs.length c) zs.length (zs.map (Value.int .i64)))) (fun _ jv _ => head' - (intOf jv).toNat)
      case atStart => exact ⟨0, _, by omega, rfl, rfl, by first | (show _ = _; simp [begB]) | (show _ = _; simp [begB]; omega), HBd.out, HOd⟩
      case round =>
       obtain ⟨m, B, hmh, rfl, rfl, HB0, hbm, HOm⟩ := hrel
       have HBm := hidd hbm
       clear hbm HBd HOd
       by_cases hcont : m < head' ∧ B = true
       ·obtain ⟨hm, rfl⟩ := hcont
        have hhz : head' ≤ zs.length ∧ begB L zs m = true := by
         have := HB0.out
         simp at this
         exact this
        have HBg := hidd hhz.2
        have hh1 := hhz.1
        have hmz : (m : Int) < (head' : Int) := by omega
        have hmz2 : (m : Int) < (zs.length : Int) := by omega
        have hmz3 : (m : Int) < (L.length : Int) := by omega
        have HVm := hidd (own_below HV.out HBm.out)
        obtain ⟨gv, cv, rfl⟩ : ∃ gv cv, v = .slice (some ⟨gv, 0, none⟩) L.length cv := by
         rcases HVm.out.2 with ⟨_, h'⟩ | ⟨gv, cv, cur, h', _⟩
         ·omega
         ·exact ⟨gv, cv, h'⟩
        have e1 : wr.cell? ⟨g, m, none⟩ = some (.int .i64 (zs.getD m 0)) := by
         rw [HOm.out.cellAt m (by omega)]
         simp [List.getD_eq_getElem?_getD, (by omega : m < zs.length)]
        have e2 : wr.cell? ⟨gv, m, none⟩ = some (.int .i64 (L.getD m 0)) := by
         rw [HVm.out.cellAt m (by omega)]
         simp [List.getD_eq_getElem?_getD, (by omega : m < L.length)]
        have HN : Hid ((zs.getD m 0 == L.getD m 0) = (decide (head' ≤ zs.length) && begB L zs (m + 1))) := by
         show _ = _
         rw [begB_succ, HBg.out, decide_eq_true hh1, Bool.true_and, Bool.true_and]
         rw [Bool.eq_iff_iff, beq_iff_eq, decide_eq_true_iff]
         exact eq_comm
        generalize zs.getD m 0 = p1 at *
        generalize L.getD m 0 = p2 at *
        clear hhz HVm HB0
        have hm0 : (0 : Int) ≤ (m : Int) := by omega
        go_wp2
        go_region_held3 (fun w' => w'.cell? ⟨g, m, none⟩ = some (.int .i64 p1) ∧ w'.cell? ⟨gv, m, none⟩ = some (.int .i64 p2)) (go_keep) (fail)
        all_goals go_wp2
        all_goals (refine ⟨⟨m + 1, _, by omega, by go_num, rfl, HN, HBm.out.drew, ?_⟩, by simp [intOf]; omega⟩; exact own_below HOm.out (Below.refl _ _).drew)
       ·have HBeg : Hid (B = (decide (head' ≤ zs.length) && begB L zs head')) := by
         show _ = _
         rcases Nat.lt_or_ge m head' with hm | hm
         ·have hBf : B = false := by cases B with | false => rfl | true => exact absurd ⟨hm, rfl⟩ hcont
          have h0 := HB0.out
          rw [hBf] at h0 ⊢
          exact beg_stop h0 hmh
         ·obtain rfl : m = head' := by omega
          exact HB0.out
        have x3 : wr.cell? ⟨b3, 0, none⟩ = some (.slice a2 D.length c2) := blkc (blko HX5.out HBm.out) 0
        obtain ⟨-, -, -, -, hVal, -⟩ := HNear.out
        have HAc := hidd (Accepts_any c2 a2 D tx wr (by omega) HT5.out hVal (HD5.out.below HBm.out) (HT.out.below (HB5.out.trans (HBm.out.mono HB5.out.size))))
        have hN : nearB (decList s) zs k' head' = (decide (ed ≤ k') && B) := by
         rw [HBeg.out, HL.out, HED.out]
         rfl
        rw [HQ.out.2.2, hN] at HAc
        clear hVal hN HBeg HB0
        have hst : m < head' ∧ B = false ∨ ¬ m < head' := by
         rcases Nat.lt_or_ge m head' with hm | hm
         ·exact Or.inl ⟨hm, by cases B with | false => rfl | true => exact absurd ⟨hm, rfl⟩ hcont⟩
         ·exact Or.inr (by omega)
        clear hcont
        rcases hst with ⟨hm, rfl⟩ | hm
        ·have hmz : (m : Int) < (head' : Int) := by omega
         go_wp2_with fail
         refine HAc.out.mono ?_
         rintro e we ⟨rfl, hbe⟩
         rw [Bool.and_false]
         have HBe := hidd (HBm.out.trans (hbe.mono HBm.out.size))
         clear hbe HAc x3
         by_cases he : ed ≤ k'
         ·have hez : (ed : Int) ≤ (k' : Int) := by omega
          go_wp2_with fail
          exact ⟨⟨i + 1, by omega, by go_num, HBe.out⟩, by simp [intOf]; omega⟩
         ·have hez : ¬ (ed : Int) ≤ (k' : Int) := by omega
          go_wp2_with fail
          exact ⟨⟨i + 1, by omega, by go_num, HBe.out⟩, by simp [intOf]; omega⟩
        ·have hmz : ¬ (m : Int) < (head' : Int) := by omega
         go_wp2_with fail
         refine HAc.out.mono ?_
         rintro e we ⟨rfl, hbe⟩
         have HBe := hidd (HBm.out.trans (hbe.mono HBm.out.size))
         clear hbe HAc x3
         by_cases he : ed ≤ k'
         ·have hez : (ed : Int) ≤ (k' : Int) := by omega
          rw [decide_eq_true he, Bool.true_and]
          cases B
          all_goals
           go_wp2_with fail
           exact ⟨⟨i + 1, by omega, by go_num, HBe.out⟩, by simp [intOf]; omega⟩
         ·have hez : ¬ (ed : Int) ≤ (k' : Int) := by omega
          rw [decide_eq_false he, Bool.false_and]
          go_wp2_with fail
          exact ⟨⟨i + 1, by omega, by go_num, HBe.out⟩, by simp [intOf]; omega⟩
   ·have hiz : ¬ (i : Int) < 6 := by omega
    go_wp2
    go_ret
    exact ⟨rfl, HB5.out.trans (HBr.out.mono HB5.out.size)⟩
 ·have hcz : (code != 0) = true := by simp [h0]
  clear h0
  go_wp2_with fail
  go_ret
  exact ⟨rfl, HB3.out⟩
end Go.Proofs.YtoinajfliogcdaaDoor
