import Derived.Test.YtboocdiilbcdcaaDgF
import Derived.Test.YtboocdiilbcdcaaDgG
import Derived.Test.YtboocdiilbcdcaaAtL
namespace Go.Proofs.Ytboocdiilbcdcaa
open Go Go.RowKit
set_option linter.unusedVariables false
set_option linter.unusedSimpArgs false
set_option maxRecDepth 100000

/-! laws.FnDigest. -/
theorem below_none {w w' : World} (h : w.grownBy w' none) : Below w.heap.size w w' := ⟨h.os, h.tape, h.output, h.size, fun i hi => h.block i hi (by simp)⟩
theorem lawAt_one (ao : Option Addr) (n cap : Nat) (w : World) :
    Calls Try.prog 10 #[.slice ao n cap, .int .i64 0, .int .i64 1] w fun e w' => e = .returned (.int .i64 0) ∧ w' = w := by
  go_enter Try.func10, Try.ntmps10
  go_wp2
  go_ret
  exact ⟨rfl, rfl⟩
/-- A number from 0 to N. -/
theorem half_any (ao : Option Addr) (n cap N : Nat) (w : World) (hn : n ≤ 1048576) (hN : N ≤ 4096) (hc : CodeIn w ao n) :
    Calls Try.prog 10 #[.slice ao n cap, .int .i64 0, .int .i64 ((N : Int) + 1)] w fun e w' => ∃ x : Nat, e = .returned (.int .i64 (x : Int)) ∧ x ≤ N ∧ Below w.heap.size w w' := by
  by_cases h : N = 0
  · subst h
    exact (lawAt_one ao n cap w).mono fun e w' ⟨h1, h2⟩ => ⟨0, h1, Nat.le_refl _, by rw [h2]; exact Below.refl _ _⟩
  · exact (lawAt_any ao n cap 0 (N + 1) w hn (by omega) (by omega) (by omega) hc).mono fun e w' ⟨x, h1, h2, h3⟩ => ⟨x, h1, by omega, below_none h3⟩
structure DBx (W : World) (B : Nat) (s p c : Int) (ad : Option Addr) (n cp : Nat) (zs : List Int) : Prop where
  box : W.heap[B]? = some (.cells #[.int .i64 s, .int .i64 p, .int .i64 c, .slice ad n cp] 27)
  row : SzI W (.slice ad n cp) zs
theorem DBx.below {W W' : World} {B : Nat} {s p c : Int} {ad : Option Addr} {n cp : Nat} {zs : List Int} (h : DBx W B s p c ad n cp zs) (hb : Below W.heap.size W W') : DBx W' B s p c ad n cp zs := ⟨blko h.box hb, h.row.below hb⟩
theorem DBx.keep {W W' : World} {B : Nat} {s p c : Int} {ad : Option Addr} {n cp : Nat} {zs : List Int} (h : DBx W B s p c ad n cp zs) (hb : Below W.heap.size W W') : DBx W' B s p c ad n cp zs := h.below hb
/-- A digest told. -/
def DgQ (V : World) (s p c : Int) (zs : List Int) (code : Int) (e : Ending) (w' : World) : Prop :=
  ∃ ad n cp, e = .returned (.tuple #[.agg #[.int .i64 s, .int .i64 p, .int .i64 c, .slice ad n cp], .int .i64 code]) ∧ Hid (zs.length = n) ∧ SzI w' (.slice ad n cp) zs ∧ Below V.heap.size V w'
theorem DgR.q {V : World} {J : DgT} {e : Ending} {w' : World} (h : DgR V J e w') : DgQ V J.1.1 J.1.2.1 J.1.2.2.1 J.1.2.2.2 J.2 e w' := by
  obtain ⟨v, h1, h2, h3⟩ := h
  obtain ⟨ad, cp, rfl⟩ := own_sl1 h2
  exact ⟨ad, _, cp, h1, hidd rfl, SzI.own h2, h3⟩
theorem specQ (zs : List Int) (t : Int) (u : Value) (w : World) (hl : zs.length ≤ 1048576) (hv : SzI w u zs) :
    Calls Try.prog 8 #[u, .int .i64 t] w (DgQ w (ofZ zs t).1.1 (ofZ zs t).1.2.1 (ofZ zs t).1.2.2.1 (ofZ zs t).1.2.2.2 (ofZ zs t).2) := (specOf_any t u zs w hl hv).mono fun e w' h => h.q
theorem implQ (zs : List Int) (t : Int) (u : Value) (w : World) (hl : zs.length ≤ 1048576) (hv : SzI w u zs) :
    Calls Try.prog 9 #[u, .int .i64 t] w (DgQ w (ofZ zs t).1.1 (ofZ zs t).1.2.1 (ofZ zs t).1.2.2.1 (ofZ zs t).1.2.2.2 (ofZ zs t).2) := (implOf_any t u zs w hl hv).mono fun e w' h => h.q
theorem implOkQ {zs : List Int} {s : Nat} (h : OkL zs s) (u : Value) (w : World) (hv : SzI w u zs) :
    Calls Try.prog 9 #[u, .int .i64 (s : Int)] w (DgQ w (s : Int) 1 (zs.length : Int) (ptsZ zs s) 0) := by
  have h1 := implQ zs (s : Int) u w (by have := h.len; omega) hv
  rw [h.of] at h1
  exact h1
theorem specOkQ {zs : List Int} {s : Nat} (h : OkL zs s) (u : Value) (w : World) (hv : SzI w u zs) :
    Calls Try.prog 8 #[u, .int .i64 (s : Int)] w (DgQ w (s : Int) 1 (zs.length : Int) (ptsZ zs s) 0) := by
  have h1 := specQ zs (s : Int) u w (by have := h.len; omega) hv
  rw [h.of] at h1
  exact h1
/-- What is joined: with its ranks, or not at all. -/
structure Joined (za zb : List Int) (s na nb : Nat) (js jp jc : Int) (jz : List Int) (code : Int) : Prop where
  or : code = 0 ∨ code = 11 ∧ decide ((na : Int) + (nb : Int) ≤ 512) = false
  rank : code = 0 → ∀ v, ∃ lo hi : Int, rkZ js jp jc jz v = (lo, hi, 0) ∧ lo ≤ ((cntLe (za ++ zb) v : Nat) : Int) ∧ ((cntLe (za ++ zb) v : Nat) : Int) ≤ hi
  few : jz.length ≤ 1048576
theorem joinQ {za zb : List Int} {s : Nat} (ha : OkL za s) (hb : OkL zb s) (u1 u2 : Value) (w : World) (na nb : Nat) (hna : (ptsZ za s).length = na) (hnb : (ptsZ zb s).length = nb) (h1 : SzI w u1 (ptsZ za s)) (h2 : SzI w u2 (ptsZ zb s)) :
    Calls Try.prog 11 #[.agg #[.int .i64 (s : Int), .int .i64 1, .int .i64 (za.length : Int), u1], .agg #[.int .i64 (s : Int), .int .i64 1, .int .i64 (zb.length : Int), u2]] w fun e w' => ∃ js jp jc jz code, Joined za zb s na nb js jp jc jz code ∧ DgQ w js jp jc jz code e w' := by
  have fa := ha.few
  have fb := hb.few
  have la := ptsZ_len za s
  have lb := ptsZ_len zb s
  have h := implJoin_any (s : Int) 1 (za.length : Int) (s : Int) 1 (zb.length : Int) u1 u2 (ptsZ za s) (ptsZ zb s) w (by omega) (by omega) h1 h2
  by_cases hf : (ptsZ za s).length + (ptsZ zb s).length ≤ 512
  · rw [joZ_ok ha hb hf] at h
    refine h.mono fun e w' hq => ⟨_, _, _, _, _, ⟨Or.inl rfl, fun _ v => rank_two ha hb hf v, ?_⟩, hq.q⟩
    show (srtZ _).length ≤ _
    rw [srtZ_len, List.length_append]; omega
  · rw [joZ_many ha hb hf] at h
    refine h.mono fun e w' hq => ⟨_, _, _, _, _, ⟨Or.inr ⟨rfl, by simp; omega⟩, (fun h => by cases h), (by simp)⟩, hq.q⟩
section
variable {ops : Array Oper} {rest : List Oper} {o : Oper} {a : Act} {w : World} {Q : Exit → Act → World → Prop}
set_option maxRecDepth 1000000 in
theorem wpSz_from0 {w0 : World} (hgd : o.guard = none) (x y : Operand) (ho : o.op = .slice 23 x (some y) none none) (v : Value) (zs : List Int) (n : Nat) (hx : a.eval x = v) (hy : a.eval y = .int .i64 (n : Int)) (hst : SzI w0 v zs) (hs : n ≤ zs.length) (hl : zs.length ≤ 1048576)
    (h : ∀ v', SzI w0 v' (zs.drop n) → wpList Try.prog ops Q rest (a.put o.dst v') w) : wpList Try.prog ops Q (o :: rest) a w := by
  by_cases h1 : 1 ≤ n
  · exact wpSz_from hgd x y ho v zs n hx hy hst hs h1 hl h
  · obtain rfl : n = 0 := by omega
    obtain ⟨s, cap, rfl, hcap, hT⟩ := hst
    have hr := run_slice_l (P := Try.prog) w 23 s zs.length cap Try.underlying23 .i64 ((0 : Nat) : Int) (by omega) (by omega)
    have hsz : (sizeOf (Try.prog.elem 23)).run Try.prog w = .ok 1 w := Try.sizeOf3 w
    rw [hsz] at hr
    simp only [Result.andThen_ok, Int.toNat_natCast, sliced, Nat.mul_one] at hr
    have hrr := run_sliceAt_slice (P := Try.prog) w 23 (.slice s zs.length cap) (some (.int .i64 ((0 : Nat) : Int))) none none Try.underlying23
    refine wpList_plain hgd fun K hK => ?_
    unfold Oper.wp execOp
    simp only [ho, Option.map_some, Option.map_none, hx, hy, Sem.run_bind, Sem.run_pure, Result.andThen_ok, hrr, hr]
    refine hK _ _ (h _ ?_)
    rw [List.drop_zero]
    refine ⟨s, cap, ?_, hcap, hT⟩
    rcases s with _ | s
    · simp
    · simp [Addr.add]
end
def someB (zs : List Int) (x : Int) (k : Nat) : Bool := (zs.take k).any fun y => y == x
theorem someB_succ (zs : List Int) (x : Int) (k : Nat) (h : k < zs.length) : someB zs x (k + 1) = (someB zs x k || (zs.getD k 0 == x)) := by
  unfold someB
  rw [List.take_succ_eq_append_getElem h, List.any_append]
  simp [List.getD_eq_getElem?_getD, h]
theorem someB_in {zs : List Int} {x : Int} (h : x ∈ zs) : someB zs x zs.length = true := by
  unfold someB
  rw [List.take_length, List.any_eq_true]
  exact ⟨x, h, by simp⟩
theorem sz_cell {W : World} {g n cp : Nat} {zs : List Int} (h : SzI W (.slice (some ⟨g, 0, none⟩) n cp) zs) (i : Nat) (hi : i < zs.length) : W.cell? ⟨g, i, none⟩ = some (.int .i64 (zs.getD i 0)) := by
  obtain ⟨ad, cap, h1, _, h2⟩ := h
  rcases h2 with rfl | ⟨g', off, rfl, _, h3⟩
  · simp at hi
  · simp only [Value.slice.injEq, Option.some.injEq, Addr.mk.injEq, and_true] at h1
    obtain ⟨⟨rfl, rfl⟩, _⟩ := h1
    have := h3 i hi
    rwa [Nat.zero_add] at this
theorem cntLe_zero (zs : List Int) (v : Int) : cntLe (zs.take 0) v = 0 := by simp [cntLe]
theorem cntLe_all (zs : List Int) (v : Int) (n : Nat) (h : zs.length = n) : cntLe (zs.take n) v = cntLe zs v := by rw [← h, List.take_length]
theorem cntLe_k (zs : List Int) (v : Int) (k : Nat) : cntLe (zs.take k) v ≤ zs.length := Nat.le_trans (cntLe_le _ _) (by simp; omega)
end Go.Proofs.Ytboocdiilbcdcaa
