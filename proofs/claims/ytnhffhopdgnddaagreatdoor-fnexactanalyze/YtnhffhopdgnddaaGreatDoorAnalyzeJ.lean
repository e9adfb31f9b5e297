import Derived.Test.YtnhffhopdgnddaaGreatDoorCards
import Derived.Test.YtnhffhopdgnddaaGreatDoorTie
import Derived.Test.YtnhffhopdgnddaaGreatDoorAnalyzeJ37
import Derived.WalkKit
import Derived.ProofKit
import Derived.OpenShut
import Derived.Lib.LaidIn
import Derived.Lib.LaidU8T
import Derived.Deep.DeepHandedRow
import Derived.Deep.DeepWitnessRowRef
import Derived.MakeChecks
import Derived.Deep.Strs
import Derived.Deep.SlicePairs
import Derived.Below
namespace Go.Proofs.YtnhffhopdgnddaaGreatDoor.fnExactAnalyze
open Go.ChangeShapes Go.WideShapes Go.ChangeAt Go.RowKit Go.Lib
open Go.ChangeMaps (open_string shut_string)
set_option linter.unusedVariables false
set_option maxRecDepth 100000

theorem own : ownKnob Tryz.prog.godebug = none := by kernel_rfl
theorem first_eq : Rows.laid_unicode_utf8_first = Lib.firstData := by kernel_rfl
theorem accept_eq : (Rows.laid_unicode_utf8_acceptRanges : DataW Unit) = Lib.acceptData := by kernel_rfl

theorem tabs {W : World} (h : laidMetH Tryz.prog Rows.fnExactAnalyzeRow.laid W) : Tabs W := by
  rw [Go.MakeChecks.laidMetH_plain _ _ _ (by kernel_rfl)] at h
  have hf := Lib.laidMet.reads h (.tail _ (.head _))
  have ha := Lib.laidMet.reads h (.head _)
  rw [first_eq] at hf
  rw [accept_eq] at ha
  exact utf8Tabs_of_readsT (U8Types.of196 Tryz.laysValid) ⟨by kernel_rfl, by kernel_rfl, by kernel_rfl, by kernel_rfl, by kernel_rfl, by kernel_rfl, by kernel_rfl⟩ hf ha

theorem laidOut : laidOutB Tryz.prog = true := by kernel_rfl
theorem array7 {α : Type} {cs : Array α} (h : cs.size = 7) : ∃ c0 c1 c2 c3 c4 c5 c6, cs = #[c0, c1, c2, c3, c4, c5, c6] := by
  obtain ⟨l⟩ := cs
  match l, h with
  | [c0, c1, c2, c3, c4, c5, c6], _ => exact ⟨c0, c1, c2, c3, c4, c5, c6, rfl⟩
theorem addr_at {W : World} {a : Addr} {m : Nat} {V : Nat → Value} (h : ∀ i, i < m → W.cell? (a.add i) = some (V i)) (hp : 0 < m) : ∃ b off, a = ⟨b, off, none⟩ ∧ b < W.heap.size ∧ ∀ j, j < m → W.cell? ⟨b, off + j, none⟩ = some (V j) := by
  obtain ⟨b, off, spot⟩ := a
  have hspot : spot = none := by simpa [Addr.add] using World.cell?_spot (h 0 hp)
  subst hspot
  have hc : ∀ j, j < m → W.cell? ⟨b, off + j, none⟩ = some (V j) := fun j hj => by rw [← Go.WideShapes.add_plain]; exact h j hj
  exact ⟨b, off, rfl, cell_lt (hc 0 hp), hc⟩
theorem openStops {H : Type} {enc : TypeId × Value → H} {W : World} {n : Nat} {v : Value} {x : DataW H × List MemPlace} (h : DataW.trod enc Tryz.prog W 0 (fun _ => true) true n 23 [v] = some x) :
    ∃ (a : Option Addr) (cap : Nat) (l : List (List UInt8)), v = .slice a l.length cap ∧ l.length ≤ 9223372036854775807 ∧ HoldS W a l ∧ ∀ t, t < l.length → (bs (l.getD t [])).size ≤ 9223372036854775807 := by
  rcases Deep.open_strs Tryz.underlying23 Tryz.underlying9 (by kernel_rfl) h with ⟨hcs, _⟩ | ⟨a, len, cap, m, Sx, hcs, _, hl, hm, hmm, _, hx⟩
  · simp only [List.cons.injEq, and_true] at hcs
    subst hcs
    exact ⟨none, 0, [], rfl, by simp, Or.inl rfl, fun t ht => absurd ht (by simp)⟩
  · simp only [List.cons.injEq, and_true] at hcs
    subst hcs
    have hmc : m = cap := by simpa using hmm
    have hg : ∀ t, t < len → ((List.range len).map fun i => lst (Sx i)).getD t [] = lst (Sx t) := fun t ht => by simp [ht]
    refine ⟨some a, cap, (List.range len).map fun i => lst (Sx i), by simp, by simp; unfold maxLen at hm; omega, ?_, fun t ht => ?_⟩
    · by_cases h0 : len = 0
      · exact Or.inl (by simp [h0])
      · obtain ⟨b, off, rfl, hb, hc⟩ := addr_at (V := fun i => .string (Sx i)) (fun i hi => (hx i hi).1) (by omega)
        refine Or.inr ⟨b, off, rfl, hb, fun t ht => ?_⟩
        have ht' : t < len := by simpa using ht
        rw [hg t ht', bs_lst]
        exact hc t (by omega)
    · have ht' : t < len := by simpa using ht
      rw [hg t ht', bs_lst]
      have := (hx t (by omega)).2
      unfold maxLen at this
      omega
theorem openSyns {H : Type} {enc : TypeId × Value → H} {W : World} {n : Nat} {v : Value} {x : DataW H × List MemPlace} (h : DataW.trod enc Tryz.prog W 0 (fun _ => true) true n 39 [v] = some x) :
    ∃ (a : Option Addr) (cap : Nat) (l : List (List UInt8 × List UInt8)), v = .slice a l.length cap ∧ l.length ≤ 9223372036854775807 ∧ HoldY W a l ∧ ∀ t, t < l.length → (bs (l.getD t ([], [])).1).size ≤ 9223372036854775807 ∧ (bs (l.getD t ([], [])).2).size ≤ 9223372036854775807 := by
  rcases Deep.open_slice_pairs Tryz.underlying39 Tryz.underlying102 (by kernel_rfl) rfl rfl (by kernel_rfl) (by kernel_rfl) h with ⟨hcs, _⟩ | ⟨a, len, cap, m, k, V0, V1, D0, D1, P0, P1, hcs, _, hl, hm, hmm, _, hx⟩
  · simp only [List.cons.injEq, and_true] at hcs
    subst hcs
    exact ⟨none, 0, [], rfl, by simp, Or.inl rfl, fun t ht => absurd ht (by simp)⟩
  · simp only [List.cons.injEq, and_true] at hcs
    subst hcs
    have hmc : m = cap := by simpa using hmm
    have each : ∀ i, i < m → ∃ q : ByteArray × ByteArray, V0 i = .string q.1 ∧ V1 i = .string q.2 ∧ q.1.size ≤ maxLen ∧ q.2.size ≤ maxLen := fun i hi => by
      obtain ⟨s, h1, _, h3⟩ := DataW.trod_string Tryz.underlying9 (hx i hi).2.2.1
      obtain ⟨s', h1', _, h3'⟩ := DataW.trod_string Tryz.underlying9 (hx i hi).2.2.2
      exact ⟨(s, s'), by simpa using h1, by simpa using h1', h3, h3'⟩
    obtain ⟨q, hq⟩ := Deep.choose_lt each
    have hg : ∀ t, t < len → ((List.range len).map fun i => (lst (q i).1, lst (q i).2)).getD t ([], []) = (lst (q t).1, lst (q t).2) := fun t ht => by simp [ht]
    refine ⟨some a, cap, (List.range len).map fun i => (lst (q i).1, lst (q i).2), by simp, by simp; unfold maxLen at hm; omega, ?_, fun t ht => ?_⟩
    · by_cases h0 : len = 0
      · exact Or.inl (by simp [h0])
      · have hsp := (hx 0 (by omega)).1
        obtain ⟨b, off, spot⟩ := a
        have hspot : spot = none := by simpa [Addr.add] using World.cell?_spot hsp
        subst hspot
        have hc : ∀ j, j < m → W.cell? ⟨b, off + j * 2, none⟩ = some (.string (q j).1) ∧ W.cell? ⟨b, off + j * 2 + 1, none⟩ = some (.string (q j).2) := fun j hj => by
          have c1 := (hx j hj).1
          have c2 := (hx j hj).2.1
          rw [Go.WideShapes.add_plain] at c1 c2
          exact ⟨by rw [c1, (hq j hj).1], by rw [Nat.add_assoc, c2, (hq j hj).2.1]⟩
        refine Or.inr ⟨b, off, rfl, cell_lt (hc 0 (by omega)).1, fun t ht => ?_⟩
        have ht' : t < len := by simpa using ht
        rw [hg t ht', bs_lst, bs_lst]
        exact hc t (by omega)
    · have ht' : t < len := by simpa using ht
      rw [hg t ht', bs_lst, bs_lst]
      have h1 := (hq t (by omega)).2.2.1
      have h2 := (hq t (by omega)).2.2.2
      unfold maxLen at h1 h2
      exact ⟨by omega, by omega⟩
theorem openAz {H : Type} {enc : TypeId × Value → H} {W : World} {base : Nat} {v : Value} {d : DataW H} {p : List MemPlace} (hv : Value.okWide Tryz.prog W .any base 41 v) (h : DataW.Trod enc Tryz.prog W 0 (fun _ => true) true 41 v d p) :
    ∃ (bf bsm bp : Bool) (aS aY : Option Addr) (cS cY : Nat) (stops : List (List UInt8)) (syns : List (List UInt8 × List UInt8)) (lo hi : Int), v = .agg #[.bool bf, .bool bsm, .bool bp, .slice aS stops.length cS, .slice aY syns.length cY, .int .i64 lo, .int .i64 hi] ∧ stops.length ≤ 9223372036854775807 ∧ syns.length ≤ 9223372036854775807 ∧ HoldS W aS stops ∧ HoldY W aY syns ∧
      (∀ t, t < stops.length → (bs (stops.getD t [])).size ≤ 9223372036854775807) ∧ (∀ t, t < syns.length → (bs (syns.getD t ([], [])).1).size ≤ 9223372036854775807 ∧ (bs (syns.getD t ([], [])).2).size ≤ 9223372036854775807) := by
  obtain ⟨cs, rfl, hsz⟩ := okWide_struct Tryz.underlying41 hv
  obtain ⟨c0, c1, c2, c3, c4, c5, c6, rfl⟩ := array7 (hsz.trans (by kernel_rfl))
  obtain ⟨fuel, hf⟩ := h
  obtain ⟨xs, n, _, _, _, hlen, hfl⟩ := DataW.trod_struct Tryz.underlying41 hf
  have one : ∀ t, t = 4 ∨ t = 3 ∨ t = 23 ∨ t = 39 → Tryz.prog.cellsOf t = 1 := by
    rintro t (rfl | rfl | rfl | rfl) <;> kernel_rfl
  have r0 : DataW.trod enc Tryz.prog W 0 (fun _ => true) true n 4 [c0] = xs[0]? := by
    have h : DataW.trod enc Tryz.prog W 0 (fun _ => true) true n 4 (([c0, c1, c2, c3, c4, c5, c6].drop 0).take (Tryz.prog.cellsOf 4)) = xs[0]? := hfl 0 _ rfl
    rw [one 4 (Or.inl rfl)] at h
    exact h
  have r1 : DataW.trod enc Tryz.prog W 0 (fun _ => true) true n 4 [c1] = xs[1]? := by
    have h : DataW.trod enc Tryz.prog W 0 (fun _ => true) true n 4 (([c0, c1, c2, c3, c4, c5, c6].drop 1).take (Tryz.prog.cellsOf 4)) = xs[1]? := hfl 1 _ rfl
    rw [one 4 (Or.inl rfl)] at h
    exact h
  have r2 : DataW.trod enc Tryz.prog W 0 (fun _ => true) true n 4 [c2] = xs[2]? := by
    have h : DataW.trod enc Tryz.prog W 0 (fun _ => true) true n 4 (([c0, c1, c2, c3, c4, c5, c6].drop 2).take (Tryz.prog.cellsOf 4)) = xs[2]? := hfl 2 _ rfl
    rw [one 4 (Or.inl rfl)] at h
    exact h
  have r3 : DataW.trod enc Tryz.prog W 0 (fun _ => true) true n 23 [c3] = xs[3]? := by
    have h : DataW.trod enc Tryz.prog W 0 (fun _ => true) true n 23 (([c0, c1, c2, c3, c4, c5, c6].drop 3).take (Tryz.prog.cellsOf 23)) = xs[3]? := hfl 3 _ rfl
    rw [one 23 (Or.inr (Or.inr (Or.inl rfl)))] at h
    exact h
  have r4 : DataW.trod enc Tryz.prog W 0 (fun _ => true) true n 39 [c4] = xs[4]? := by
    have h : DataW.trod enc Tryz.prog W 0 (fun _ => true) true n 39 (([c0, c1, c2, c3, c4, c5, c6].drop 4).take (Tryz.prog.cellsOf 39)) = xs[4]? := hfl 4 _ rfl
    rw [one 39 (Or.inr (Or.inr (Or.inr rfl)))] at h
    exact h
  have r5 : DataW.trod enc Tryz.prog W 0 (fun _ => true) true n 3 [c5] = xs[5]? := by
    have h : DataW.trod enc Tryz.prog W 0 (fun _ => true) true n 3 (([c0, c1, c2, c3, c4, c5, c6].drop 5).take (Tryz.prog.cellsOf 3)) = xs[5]? := hfl 5 _ rfl
    rw [one 3 (Or.inr (Or.inl rfl))] at h
    exact h
  have r6 : DataW.trod enc Tryz.prog W 0 (fun _ => true) true n 3 [c6] = xs[6]? := by
    have h : DataW.trod enc Tryz.prog W 0 (fun _ => true) true n 3 (([c0, c1, c2, c3, c4, c5, c6].drop 6).take (Tryz.prog.cellsOf 3)) = xs[6]? := hfl 6 _ rfl
    rw [one 3 (Or.inr (Or.inl rfl))] at h
    exact h
  have some7 : ∀ i, i < 7 → ∃ y, xs[i]? = some y := fun i hi => ⟨_, List.getElem?_eq_getElem (by rw [hlen]; exact hi)⟩
  obtain ⟨y0, e0⟩ := some7 0 (by omega)
  obtain ⟨y1, e1⟩ := some7 1 (by omega)
  obtain ⟨y2, e2⟩ := some7 2 (by omega)
  obtain ⟨y3, e3⟩ := some7 3 (by omega)
  obtain ⟨y4, e4⟩ := some7 4 (by omega)
  obtain ⟨y5, e5⟩ := some7 5 (by omega)
  obtain ⟨y6, e6⟩ := some7 6 (by omega)
  rw [e0] at r0
  rw [e1] at r1
  rw [e2] at r2
  rw [e3] at r3
  rw [e4] at r4
  rw [e5] at r5
  rw [e6] at r6
  obtain ⟨bf, q0, _⟩ := DataW.trod_bool Tryz.underlying4 r0
  obtain ⟨bsm, q1, _⟩ := DataW.trod_bool Tryz.underlying4 r1
  obtain ⟨bp, q2, _⟩ := DataW.trod_bool Tryz.underlying4 r2
  obtain ⟨aS, cS, stops, q3, nS, hS, zS⟩ := openStops r3
  obtain ⟨aY, cY, syns, q4, nY, hY, zY⟩ := openSyns r4
  obtain ⟨lo, q5, _, _⟩ := DataW.trod_int Tryz.underlying3 r5
  obtain ⟨hi, q6, _, _⟩ := DataW.trod_int Tryz.underlying3 r6
  simp only [List.cons.injEq, and_true] at q0 q1 q2 q5 q6
  subst q0 q1 q2 q3 q4 q5 q6
  exact ⟨bf, bsm, bp, aS, aY, cS, cY, stops, syns, lo, hi, rfl, nS, nY, hS, hY, zS, zY⟩

theorem contract (H : Type) (enc : TypeId × Value → H) (W : World) (base : Nat) (args : Array Value) (ds gs : List (DataW H)) (before : List MemPlace)
    (hval : ∀ (j : Nat) t v, Tryz.f4.params[j]? = some t → args[j]? = some v → Value.okWide Tryz.prog W .any base t v)
    (hW : DataW.Whole enc Tryz.prog Tryz.f4.params.toList Rows.fnExactAnalyzeSpec.vars false W args.toList ds gs before) (hL : laidMetH Tryz.prog Rows.fnExactAnalyzeRow.laid W) :
    Calls Tryz.prog 4 args W fun e W' => ∃ v, e = .returned v ∧ Rows.fnExactAnalyzeSpec.post enc Tryz.prog Tryz.f4 false true false false W args v W' := by
  have hW' := hW
  obtain ⟨p, q, hA0, hV, rfl, hfz, hnd⟩ := hW
  have hA : DataW.TrodAll enc Tryz.prog W 0 (fun _ => true) true Tryz.f4.params.toList args.toList ds p := hA0
  rw [Tryz.params4] at hA hval
  obtain ⟨v0, v1, d0, d1, p0, p1, rfl, rfl, rfl, h0, h1⟩ := trodAll_two hA
  obtain ⟨rfl, rfl⟩ := trodVars_none hV
  have k0 := h0
  have lt0 : ∀ x ∈ p0, x.block < W.heap.size := by obtain ⟨m, hm⟩ := k0; exact DataW.trod_lt m _ _ _ hm
  obtain ⟨bf, bsm, bp, aS, aY, cS, cY, stops, syns, lo, hi, rfl, nS, nY, hS, hY, zS, zY⟩ := openAz (hval 0 41 v0 rfl rfl) h0
  obtain ⟨s, rfl, rfl, rfl, ws⟩ := open_string Tryz.underlying9 (hval 1 9 v1 rfl rfl) h1
  clear hA0 hV
  refine (anLaw_any bf bsm bp aS aY cS cY stops syns lo hi s W (tabs hL) nS nY hS hY zS zY).mono ?_
  rintro e W' ⟨rfl, bel⟩
  exact ⟨_, rfl, _, _, _, [], _, [], hW', trodAll_mk1 (shut_bool Tryz.underlying4 _), trodAll_mk2 (Below.trod laidOut (by kernel_rfl) (of_decide_eq_true (by kernel_rfl)) k0 bel lt0) (shut_string Tryz.underlying9 ws), rfl, bel.frame _, fun h => by cases h⟩

noncomputable def laidWorld (os : Os) : World :=
  let w0 := World.holding Tryz.prog os ⟨#[], #[], []⟩
  let put (h : Array Obj) (g : Nat) (cs : Array Value) : Array Obj := h.modify g fun
    | .cells _ t frozen => .cells cs t frozen
    | o => o
  let h1 := put w0.heap (Tryz.laysValid_ren.g 3) (Lib.firstTab.map fun z => Value.int .u8 z).toArray
  let h2 := put h1 (Tryz.laysValid_ren.g 4) ((List.range 16).flatMap fun i => [Value.int .u8 (Lib.accLo i), Value.int .u8 (Lib.accHi i)]).toArray
  { w0 with heap := h2 }
theorem laid_met (os : Os) (args : Array Value) : laidMet Tryz.prog Rows.fnExactAnalyzeRow.laid ((laidWorld os).forCall (fun _ _ => 0) ⟨#[], args, []⟩).memory :=
  (LaidIn.of_run (l := Rows.fnExactAnalyzeRow.laid) [Tryz.laysValid_ren.g 4, Tryz.laysValid_ren.g 3] 8 (by kernel_rfl) (by kernel_rfl) (by kernel_rfl) (by kernel_rfl)).met
theorem reads (os : Os) {H : Type} (enc : TypeId × Value → H) : ∃ places, DataW.whole enc Tryz.prog ((laidWorld os).forCall (fun _ _ => 0) ⟨#[], #[Value.agg #[.bool false, .bool false, .bool false, .slice none 0 0, .slice none 0 0, .int .i64 0, .int .i64 0], .string ⟨#[]⟩], []⟩).memory Tryz.f4.params.toList Rows.fnExactAnalyzeSpec.vars false #[Value.agg #[.bool false, .bool false, .bool false, .slice none 0 0, .slice none 0 0, .int .i64 0, .int .i64 0], .string ⟨#[]⟩].toList 8 = some ([.agg [.lit (.bool false), .lit (.bool false), .lit (.bool false), .nil, .nil, .lit (.int .i64 0), .lit (.int .i64 0)], .lit (.string [])], [], places) :=
  ⟨[], by kernel_rfl⟩

set_option maxRecDepth 100000 in
theorem lifted (os : Os) (started : os.Started) (H : Type) (enc : TypeId × Value → H) (F : Stop.Interp) :
    ReturnsInHanded {} Tryz.checked os 4 .any ((OpenSpec.ofChange Rows.fnExactAnalyzeSpec).preRow enc Tryz.prog Tryz.f4 Rows.fnExactAnalyzeRow.domain false Rows.fnExactAnalyzeRow.laid) (((OpenSpec.ofChange Rows.fnExactAnalyzeSpec).at F).post enc Tryz.prog Tryz.f4 false true false false) := by
  obtain ⟨places, hx⟩ := reads os enc
  refine returnsInHanded_of_row (C := Tryz.checked) (s := OpenSpec.ofChange Rows.fnExactAnalyzeSpec) own started (by kernel_rfl) Tryz.func4
    (witness_row_atRef (enc := enc) (C := Tryz.checked) false (laidWorld os) #[Value.agg #[.bool false, .bool false, .bool false, .slice none 0 0, .slice none 0 0, .int .i64 0, .int .i64 0], .string ⟨#[]⟩] rfl (by kernel_rfl) (by kernel_rfl) (by kernel_rfl)
      (OpenSpec.preRow_of_cond 8 hx (by kernel_rfl) (fun k hk => by cases hk) (by kernel_rfl) (laid_met os _))) ?_
  intro W base args ds gs before hval hW _ _ _ hL _ _
  exact contract H enc W base args ds gs before hval hW hL

theorem said : Rows.FnExactAnalyzeSaid :=
  OpenClaim.holds_of_cond 4 Tryz.f4 rfl rfl rfl rfl rfl rfl rfl ⟨rfl, rfl, rfl, rfl, rfl⟩ rfl rfl rfl rfl rfl (by kernel_rfl) Tryz.func4 (by kernel_rfl)
    (of_decide_eq_true (by kernel_rfl)) (by unfold Func.isWrapper; rw [if_neg (of_decide_eq_false (by kernel_rfl))]; exact ⟨rfl, rfl⟩)
    (fun os started H enc _ F => by rw [OpenClaim.pre_eq_preRow]; exact lifted os started H enc F)

theorem plain (f : FuncId) (fn : Func) (hf : Tryz.pinned.checked.prog.funcNamed Rows.fnExactAnalyzeRow.func = some f) (hfn : Tryz.pinned.checked.prog.funcs[f]? = some fn) :
    false = Tryz.pinned.checked.prog.looks [] ∧ ∀ (j : Nat) t, fn.params[j]? = some t → Tryz.pinned.checked.prog.wantsStandIn t = false := by
  obtain rfl : f = 4 := Option.some.inj ((show Tryz.prog.funcNamed Rows.fnExactAnalyzeRow.func = some 4 by kernel_rfl).symm.trans hf) |>.symm
  obtain rfl : fn = Tryz.f4 := (Option.some.inj (Tryz.func4.symm.trans hfn)).symm
  refine ⟨by kernel_rfl, fun j t ht => ?_⟩
  rw [Tryz.params4] at ht
  have ht' : t = 41 ∨ t = 9 := by have := Array.mem_of_getElem? ht; simpa using this
  rcases ht' with rfl | rfl
  · exact (show Tryz.prog.wantsStandIn 41 = false by kernel_rfl)
  · exact (show Tryz.prog.wantsStandIn 9 = false by kernel_rfl)

theorem card : Rows.FnExactAnalyzeCardSaid :=
  Claim7.holds_tied_plain_at .later [] _ _ _ _ said (fun _ h => by cases h) (by kernel_rfl) (fun _ h => by cases h) fnExactAnalyze_row_tie rfl ⟨rfl, rfl⟩ (by kernel_rfl) rfl plain (by kernel_rfl)
end Go.Proofs.YtnhffhopdgnddaaGreatDoor.fnExactAnalyze

namespace Go.Proofs.YtnhffhopdgnddaaGreatDoor
theorem fnExactAnalyze_holds : Rows.FnExactAnalyzeCardSaid := fnExactAnalyze.card
#print axioms fnExactAnalyze_holds
end Go.Proofs.YtnhffhopdgnddaaGreatDoor
