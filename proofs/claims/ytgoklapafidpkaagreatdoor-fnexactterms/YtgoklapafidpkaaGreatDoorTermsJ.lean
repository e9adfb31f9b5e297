import Derived.Test.YtgoklapafidpkaaGreatDoorCards
import Derived.Test.YtgoklapafidpkaaGreatDoorTie
import Derived.Test.YtgoklapafidpkaaGreatDoorTermsJ50
import Derived.Test.YtgoklapafidpkaaGreatDoorTermsJ51
import Derived.WalkKit
import Derived.ProofKit
import Derived.OpenShut
import Derived.Lib.LaidIn
import Derived.Lib.LaidU8T
import Derived.Deep.DeepHandedRow
import Derived.Deep.DeepWitnessRowRef
import Derived.MakeChecks
import Derived.Deep.Strs
import Derived.Deep.SlicePairs
import Derived.Below
namespace Go.Proofs.YtgoklapafidpkaaGreatDoor.fnExactTerms
open Go.ChangeShapes Go.WideShapes Go.ChangeAt Go.RowKit Go.Lib
open Go.ChangeMaps (open_string shut_string)
set_option linter.unusedVariables false

theorem own : ownKnob Tryz.prog.godebug = none := by kernel_rfl
theorem first_eq : Rows.laid_unicode_utf8_first = Lib.firstData := by kernel_rfl
theorem accept_eq : (Rows.laid_unicode_utf8_acceptRanges : DataW Unit) = Lib.acceptData := by kernel_rfl

theorem tabs {W : World} (h : laidMetH Tryz.prog Rows.fnExactTermsRow.laid W) : Tabs W := by
  rw [Go.MakeChecks.laidMetH_plain _ _ _ (by kernel_rfl)] at h
  have hf := Lib.laidMet.reads h (.tail _ (.head _))
  have ha := Lib.laidMet.reads h (.head _)
  rw [first_eq] at hf
  rw [accept_eq] at ha
  exact utf8Tabs_of_readsT (U8Types.of196 Tryz.laysValid) ⟨by kernel_rfl, by kernel_rfl, by kernel_rfl, by kernel_rfl, by kernel_rfl, by kernel_rfl, by kernel_rfl⟩ hf ha

theorem laidOut : laidOutB Tryz.prog = true := by kernel_rfl
theorem array7 {α : Type} {cs : Array α} (h : cs.size = 7) : ∃ c0 c1 c2 c3 c4 c5 c6, cs = #[c0, c1, c2, c3, c4, c5, c6] := by
  obtain ⟨l⟩ := cs
  match l, h with
  | [c0, c1, c2, c3, c4, c5, c6], _ => exact ⟨c0, c1, c2, c3, c4, c5, c6, rfl⟩
theorem addr_at {W : World} {a : Addr} {m : Nat} {V : Nat → Value} (h : ∀ i, i < m → W.cell? (a.add i) = some (V i)) (hp : 0 < m) : ∃ b off, a = ⟨b, off, none⟩ ∧ b < W.heap.size ∧ ∀ j, j < m → W.cell? ⟨b, off + j, none⟩ = some (V j) := by
  obtain ⟨b, off, spot⟩ := a
  have hspot : spot = none := by simpa [Addr.add] using World.cell?_spot (h 0 hp)
  subst hspot
  have hc : ∀ j, j < m → W.cell? ⟨b, off + j, none⟩ = some (V j) := fun j hj => by rw [← Go.WideShapes.add_plain]; exact h j hj
  exact ⟨b, off, rfl, cell_lt (hc 0 hp), hc⟩
theorem openStops {H : Type} {enc : TypeId × Value → H} {W : World} {n : Nat} {v : Value} {x : DataW H × List MemPlace} (h : DataW.trod enc Tryz.prog W 0 (fun _ => true) true n 57 [v] = some x) :
    ∃ (a : Option Addr) (cap : Nat) (l : List (List UInt8)), v = .slice a l.length cap ∧ l.length ≤ 9223372036854775807 ∧ HoldS W a l ∧ ∀ t, t < l.length → (bs (l.getD t [])).size ≤ 9223372036854775807 := by
  rcases Deep.open_strs Tryz.underlying57 Tryz.underlying9 (by kernel_rfl) h with ⟨hcs, _⟩ | ⟨a, len, cap, m, Sx, hcs, _, hl, hm, hmm, _, hx⟩
  · simp only [List.cons.injEq, and_true] at hcs
    subst hcs
    exact ⟨none, 0, [], rfl, by simp, Or.inl rfl, fun t ht => absurd ht (by simp)⟩
  · simp only [List.cons.injEq, and_true] at hcs
    subst hcs
    have hmc : m = cap := by simpa using hmm
    have hg : ∀ t, t < len → ((List.range len).map fun i => lst (Sx i)).getD t [] = lst (Sx t) := fun t ht => by simp [ht]
    refine ⟨some a, cap, (List.range len).map fun i => lst (Sx i), by simp, by simp; unfold maxLen at hm; omega, ?_, fun t ht => ?_⟩
    · by_cases h0 : len = 0
      · exact Or.inl (by simp [h0])
      · obtain ⟨b, off, rfl, hb, hc⟩ := addr_at (V := fun i => .string (Sx i)) (fun i hi => (hx i hi).1) (by omega)
        refine Or.inr ⟨b, off, rfl, hb, fun t ht => ?_⟩
        have ht' : t < len := by simpa using ht
        rw [hg t ht', bs_lst]
        exact hc t (by omega)
    · have ht' : t < len := by simpa using ht
      rw [hg t ht', bs_lst]
      have := (hx t (by omega)).2
      unfold maxLen at this
      omega
theorem openSyns {H : Type} {enc : TypeId × Value → H} {W : World} {n : Nat} {v : Value} {x : DataW H × List MemPlace} (h : DataW.trod enc Tryz.prog W 0 (fun _ => true) true n 109 [v] = some x) :
    ∃ (a : Option Addr) (cap : Nat) (l : List (List UInt8 × List UInt8)), v = .slice a l.length cap ∧ l.length ≤ 9223372036854775807 ∧ HoldY W a l ∧ ∀ t, t < l.length → (bs (l.getD t ([], [])).1).size ≤ 9223372036854775807 ∧ (bs (l.getD t ([], [])).2).size ≤ 9223372036854775807 := by
  rcases Deep.open_slice_pairs Tryz.underlying109 Tryz.underlying195 (by kernel_rfl) rfl rfl (by kernel_rfl) (by kernel_rfl) h with ⟨hcs, _⟩ | ⟨a, len, cap, m, k, V0, V1, D0, D1, P0, P1, hcs, _, hl, hm, hmm, _, hx⟩
  · simp only [List.cons.injEq, and_true] at hcs
    subst hcs
    exact ⟨none, 0, [], rfl, by simp, Or.inl rfl, fun t ht => absurd ht (by simp)⟩
  · simp only [List.cons.injEq, and_true] at hcs
    subst hcs
    have hmc : m = cap := by simpa using hmm
    have each : ∀ i, i < m → ∃ q : ByteArray × ByteArray, V0 i = .string q.1 ∧ V1 i = .string q.2 ∧ q.1.size ≤ maxLen ∧ q.2.size ≤ maxLen := fun i hi => by
      obtain ⟨s, h1, _, h3⟩ := DataW.trod_string Tryz.underlying9 (hx i hi).2.2.1
      obtain ⟨s', h1', _, h3'⟩ := DataW.trod_string Tryz.underlying9 (hx i hi).2.2.2
      exact ⟨(s, s'), by simpa using h1, by simpa using h1', h3, h3'⟩
    obtain ⟨q, hq⟩ := Deep.choose_lt each
    have hg : ∀ t, t < len → ((List.range len).map fun i => (lst (q i).1, lst (q i).2)).getD t ([], []) = (lst (q t).1, lst (q t).2) := fun t ht => by simp [ht]
    refine ⟨some a, cap, (List.range len).map fun i => (lst (q i).1, lst (q i).2), by simp, by simp; unfold maxLen at hm; omega, ?_, fun t ht => ?_⟩
    · by_cases h0 : len = 0
      · exact Or.inl (by simp [h0])
      · have hsp := (hx 0 (by omega)).1
        obtain ⟨b, off, spot⟩ := a
        have hspot : spot = none := by simpa [Addr.add] using World.cell?_spot hsp
        subst hspot
        have hc : ∀ j, j < m → W.cell? ⟨b, off + j * 2, none⟩ = some (.string (q j).1) ∧ W.cell? ⟨b, off + j * 2 + 1, none⟩ = some (.string (q j).2) := fun j hj => by
          have c1 := (hx j hj).1
          have c2 := (hx j hj).2.1
          rw [Go.WideShapes.add_plain] at c1 c2
          exact ⟨by rw [c1, (hq j hj).1], by rw [Nat.add_assoc, c2, (hq j hj).2.1]⟩
        refine Or.inr ⟨b, off, rfl, cell_lt (hc 0 (by omega)).1, fun t ht => ?_⟩
        have ht' : t < len := by simpa using ht
        rw [hg t ht', bs_lst, bs_lst]
        exact hc t (by omega)
    · have ht' : t < len := by simpa using ht
      rw [hg t ht', bs_lst, bs_lst]
      have h1 := (hq t (by omega)).2.2.1
      have h2 := (hq t (by omega)).2.2.2
      unfold maxLen at h1 h2
      exact ⟨by omega, by omega⟩
set_option maxRecDepth 100000 in
set_option maxHeartbeats 2000000 in
theorem openFields {H : Type} {enc : TypeId × Value → H} {W : World} {n : Nat} {v : Value} {x : DataW H × List MemPlace} (h : DataW.trod enc Tryz.prog W 0 (fun _ => true) true n 22 [v] = some x) :
    ∃ (a : Option Addr) (cap : Nat) (l : List Fd), v = .slice a l.length cap ∧ l.length ≤ 9223372036854775807 ∧ (∀ i, FdLen (l.getD i fd0)) ∧ HoldF W a l := by
  have fd0len : FdLen fd0 := ⟨by simp [fd0], by simp [fd0], by simp [fd0], fun t ht => absurd ht (by simp [fd0]), fun t ht => absurd ht (by simp [fd0])⟩
  rcases Deep.open_slice Tryz.underlying22 h with ⟨hcs, _⟩ | ⟨a, len, cap, m, k, D, Pl, hcs, _, hl, hm, hmm, _, hx⟩
  · simp only [List.cons.injEq, and_true] at hcs
    subst hcs
    exact ⟨none, 0, [], rfl, by simp, fun i => by simpa using fd0len, Or.inl rfl⟩
  · simp only [List.cons.injEq, and_true] at hcs
    subst hcs
    have hmc : m = cap := by simpa using hmm
    have hce : Tryz.prog.cellsOf 113 = 9 := by kernel_rfl
    have hc1 : Tryz.prog.cellsOf 9 = 1 := by kernel_rfl
    have hc2 : Tryz.prog.cellsOf 3 = 1 := by kernel_rfl
    have hc3 : Tryz.prog.cellsOf 111 = 7 := by kernel_rfl
    have hc4 : Tryz.prog.cellsOf 4 = 1 := by kernel_rfl
    have hc5 : Tryz.prog.cellsOf 57 = 1 := by kernel_rfl
    have hc6 : Tryz.prog.cellsOf 109 = 1 := by kernel_rfl
    have each : ∀ i, i < m → ∃ q : Fd, (W.cell? (a.add (i * 9)) = some (.string (bs q.name)) ∧ W.cell? (a.add (i * 9 + 1)) = some (.int .i64 q.kind) ∧ W.cell? (a.add (i * 9 + 2)) = some (.bool q.bf) ∧ W.cell? (a.add (i * 9 + 3)) = some (.bool q.bsm) ∧ W.cell? (a.add (i * 9 + 4)) = some (.bool q.bp) ∧
        (∃ aS cS, W.cell? (a.add (i * 9 + 5)) = some (.slice aS q.stops.length cS) ∧ HoldS W aS q.stops) ∧ (∃ aY cY, W.cell? (a.add (i * 9 + 6)) = some (.slice aY q.syns.length cY) ∧ HoldY W aY q.syns) ∧
        W.cell? (a.add (i * 9 + 7)) = some (.int .i64 q.lo) ∧ W.cell? (a.add (i * 9 + 8)) = some (.int .i64 q.hi)) ∧ FdLen q := fun i hi => by
      obtain ⟨cs', h1, h2⟩ := hx i hi
      rw [hce] at h1
      obtain ⟨_, hlen, hcell⟩ := World.cells?_some h1
      obtain ⟨xs, k', hk, hxy, _, hxl, hf⟩ := DataW.trod_struct Tryz.underlying113 h2
      match xs, hxl, cs', hlen with
      | [y0, y1, y2], _, [v0, v1, v2, v3, v4, v5, v6, v7, v8], _ =>
        have g0 := hf 0 _ rfl
        have g1 := hf 1 _ rfl
        have g2 := hf 2 _ rfl
        simp [hc1, hc2, hc3] at g0 g1 g2
        obtain ⟨s, e0, _, hs⟩ := DataW.trod_string Tryz.underlying9 g0
        obtain ⟨kd, e1, _, _⟩ := DataW.trod_int Tryz.underlying3 g1
        obtain ⟨xs2, k2, hk2, hxy2, _, hxl2, hf2⟩ := DataW.trod_struct Tryz.underlying111 g2
        match xs2, hxl2 with
        | [z0, z1, z2, z3, z4, z5, z6], _ =>
          have r0 := hf2 0 _ rfl
          have r1 := hf2 1 _ rfl
          have r2 := hf2 2 _ rfl
          have r3 := hf2 3 _ rfl
          have r4 := hf2 4 _ rfl
          have r5 := hf2 5 _ rfl
          have r6 := hf2 6 _ rfl
          simp [hc2, hc4, hc5, hc6] at r0 r1 r2 r3 r4 r5 r6
          obtain ⟨bf, q0, _⟩ := DataW.trod_bool Tryz.underlying4 r0
          obtain ⟨bsm, q1, _⟩ := DataW.trod_bool Tryz.underlying4 r1
          obtain ⟨bp, q2, _⟩ := DataW.trod_bool Tryz.underlying4 r2
          obtain ⟨aS, cS, stops, q3, nS, hS, zS⟩ := openStops r3
          obtain ⟨aY, cY, syns, q4, nY, hY, zY⟩ := openSyns r4
          obtain ⟨lo, q5, _, _⟩ := DataW.trod_int Tryz.underlying3 r5
          obtain ⟨hi', q6, _, _⟩ := DataW.trod_int Tryz.underlying3 r6
          simp only [List.cons.injEq, and_true] at e0 e1 q0 q1 q2 q5 q6
          subst e0 e1 q0 q1 q2 q3 q4 q5 q6
          have hz : s.size = (lst s).length := (lst_len s).symm
          have cc : ∀ j, j < 9 → W.cell? (a.add (i * 9 + j)) = [Value.string s, .int .i64 kd, .bool bf, .bool bsm, .bool bp, .slice aS stops.length cS, .slice aY syns.length cY, .int .i64 lo, .int .i64 hi'][j]? := fun j hj => by
            have c := hcell j (by omega)
            rw [Deep.add_add] at c
            exact c
          refine ⟨⟨lst s, kd, bf, bsm, bp, stops, syns, lo, hi'⟩, ⟨?_, cc 1 (by omega), cc 2 (by omega), cc 3 (by omega), cc 4 (by omega), ⟨aS, cS, cc 5 (by omega), hS⟩, ⟨aY, cY, cc 6 (by omega), hY⟩, cc 7 (by omega), cc 8 (by omega)⟩, ?_⟩
          · rw [bs_lst]; exact cc 0 (by omega)
          · refine ⟨?_, nS, nY, zS, zY⟩
            show (lst s).length ≤ _
            unfold maxLen at hs
            omega
    haveI : Inhabited Fd := ⟨fd0⟩
    obtain ⟨q, hq⟩ := Deep.choose_lt each
    have hg : ∀ t, t < len → ((List.range len).map q).getD t fd0 = q t := fun t ht => by simp [ht]
    refine ⟨some a, cap, (List.range len).map q, by simp, by simp; unfold maxLen at hm; omega, fun i => ?_, ?_⟩
    · by_cases hi : i < len
      · rw [hg i hi]; exact (hq i (by omega)).2
      · simp [hi]; exact fd0len
    by_cases h0 : len = 0
    · exact Or.inl (by simp [h0])
    · have ha : ∃ b off, a = ⟨b, off, none⟩ := by
        obtain ⟨b', off', spot⟩ := a
        have hspot : spot = none := by simpa [Addr.add] using World.cell?_spot (hq 0 (by omega)).1.1
        subst hspot
        exact ⟨b', off', rfl⟩
      obtain ⟨b, off, rfl⟩ := ha
      refine Or.inr ⟨b, off, rfl, ?_, fun t ht => ?_⟩
      · have c0 := (hq 0 (by omega)).1.1
        rw [Go.WideShapes.add_plain] at c0
        exact cell_lt c0
      · have ht' : t < len := by simpa using ht
        rw [hg t ht']
        have hh := (hq t (by omega)).1
        simp only [Go.WideShapes.add_plain, ← Nat.add_assoc] at hh
        exact hh
theorem array1 {α : Type} {cs : Array α} (h : cs.size = 1) : ∃ c0, cs = #[c0] := by
  obtain ⟨l⟩ := cs
  match l, h with
  | [c0], _ => exact ⟨c0, rfl⟩
set_option maxRecDepth 100000 in
theorem openSchema {H : Type} {enc : TypeId × Value → H} {W : World} {base : Nat} {v : Value} {d : DataW H} {p : List MemPlace} (hv : Value.okWide Tryz.prog W .any base 24 v) (h : DataW.Trod enc Tryz.prog W 0 (fun _ => true) true 24 v d p) :
    ∃ (a : Option Addr) (cap : Nat) (l : List Fd), v = .agg #[.slice a l.length cap] ∧ l.length ≤ 9223372036854775807 ∧ (∀ i, FdLen (l.getD i fd0)) ∧ HoldF W a l := by
  obtain ⟨cs, rfl, hsz⟩ := okWide_struct Tryz.underlying24 hv
  obtain ⟨c0, rfl⟩ := array1 (hsz.trans (by kernel_rfl))
  obtain ⟨fuel, hf⟩ := h
  obtain ⟨xs, n, _, _, _, hlen, hfl⟩ := DataW.trod_struct Tryz.underlying24 hf
  have r0 : DataW.trod enc Tryz.prog W 0 (fun _ => true) true n 22 [c0] = xs[0]? := by
    have h : DataW.trod enc Tryz.prog W 0 (fun _ => true) true n 22 (([c0].drop 0).take (Tryz.prog.cellsOf 22)) = xs[0]? := hfl 0 _ rfl
    rw [show Tryz.prog.cellsOf 22 = 1 by kernel_rfl] at h
    exact h
  obtain ⟨y0, e0⟩ : ∃ y, xs[0]? = some y := ⟨_, List.getElem?_eq_getElem (by rw [hlen]; exact Nat.zero_lt_one)⟩
  rw [e0] at r0
  obtain ⟨a, cap, l, rfl, h1, h2, h3⟩ := openFields r0
  exact ⟨a, cap, l, rfl, h1, h2, h3⟩

set_option maxRecDepth 100000 in
theorem contract (H : Type) (enc : TypeId × Value → H) (W : World) (base : Nat) (args : Array Value) (ds gs : List (DataW H)) (before : List MemPlace)
    (hval : ∀ (j : Nat) t v, Tryz.f4.params[j]? = some t → args[j]? = some v → Value.okWide Tryz.prog W .any base t v)
    (hW : DataW.Whole enc Tryz.prog Tryz.f4.params.toList Rows.fnExactTermsSpec.vars false W args.toList ds gs before) (hL : laidMetH Tryz.prog Rows.fnExactTermsRow.laid W) :
    Calls Tryz.prog 4 args W fun e W' => ∃ v, e = .returned v ∧ Rows.fnExactTermsSpec.post enc Tryz.prog Tryz.f4 false true false false W args v W' := by
  have hW' := hW
  obtain ⟨p, q, hA0, hV, rfl, hfz, hnd⟩ := hW
  have hA : DataW.TrodAll enc Tryz.prog W 0 (fun _ => true) true Tryz.f4.params.toList args.toList ds p := hA0
  rw [Tryz.params4] at hA hval
  obtain ⟨v0, v1, v2, d0, d1, d2, p0, p1, p2, rfl, rfl, rfl, h0, h1, h2⟩ := trodAll_three hA
  obtain ⟨rfl, rfl⟩ := trodVars_none hV
  have k0 := h0
  have k1 := h1
  have lt0 : ∀ x ∈ p0, x.block < W.heap.size := by obtain ⟨m, hm⟩ := k0; exact DataW.trod_lt m _ _ _ hm
  have lt1 : ∀ x ∈ p1, x.block < W.heap.size := by obtain ⟨m, hm⟩ := k1; exact DataW.trod_lt m _ _ _ hm
  obtain ⟨a, cap, l, rfl, nL, aL, hS⟩ := openSchema (hval 0 24 v0 rfl rfl) h0
  obtain ⟨id, av, cv, V, rfl, hi, hn, hAl, hH⟩ := openDoc (hval 1 27 v1 rfl rfl) h1
  obtain ⟨s, rfl, rfl, rfl, ws⟩ := open_string Tryz.underlying9 (hval 2 9 v2 rfl rfl) h2
  have hsz : (lst s).length ≤ 9223372036854775807 := by
    rw [lst_len]
    have hq := ws
    first
      | (unfold maxLen at hq; omega)
      | (simp [Lit.wf] at hq; unfold maxLen at hq; omega)
      | (simp [Lit.wf, maxLen] at hq; omega)
  clear hA0 hV
  have hcall := termsLaw_any a cap l id av cv V (lst s) W (tabs hL) nL aL hS hi hn hAl hH hsz
  rw [bs_lst] at hcall
  refine hcall.mono ?_
  rintro e W' ⟨rfl, bel⟩
  exact ⟨_, rfl, _, _, _, [], _, [], hW', trodAll_mk1 (shut_bool Tryz.underlying4 _), trodAll_mk3 (Below.trod laidOut (by kernel_rfl) (of_decide_eq_true (by kernel_rfl)) k0 bel lt0) (Below.trod laidOut (by kernel_rfl) (of_decide_eq_true (by kernel_rfl)) k1 bel lt1) (shut_string Tryz.underlying9 ws), rfl, bel.frame _, fun h => by cases h⟩

noncomputable def laidWorld (os : Os) : World :=
  let w0 := World.holding Tryz.prog os ⟨#[], #[], []⟩
  let put (h : Array Obj) (g : Nat) (cs : Array Value) : Array Obj := h.modify g fun
    | .cells _ t frozen => .cells cs t frozen
    | o => o
  let h1 := put w0.heap (Tryz.laysValid_ren.g 3) (Lib.firstTab.map fun z => Value.int .u8 z).toArray
  let h2 := put h1 (Tryz.laysValid_ren.g 4) ((List.range 16).flatMap fun i => [Value.int .u8 (Lib.accLo i), Value.int .u8 (Lib.accHi i)]).toArray
  { w0 with heap := h2 }
theorem laid_met (os : Os) (args : Array Value) : laidMet Tryz.prog Rows.fnExactTermsRow.laid ((laidWorld os).forCall (fun _ _ => 0) ⟨#[], args, []⟩).memory :=
  (LaidIn.of_run (l := Rows.fnExactTermsRow.laid) [Tryz.laysValid_ren.g 4, Tryz.laysValid_ren.g 3] 8 (by kernel_rfl) (by kernel_rfl) (by kernel_rfl) (by kernel_rfl)).met
theorem reads (os : Os) {H : Type} (enc : TypeId × Value → H) : ∃ places, DataW.whole enc Tryz.prog ((laidWorld os).forCall (fun _ _ => 0) ⟨#[], #[Value.agg #[.slice none 0 0], Value.agg #[.string ⟨#[]⟩, .slice none 0 0], .string ⟨#[]⟩], []⟩).memory Tryz.f4.params.toList Rows.fnExactTermsSpec.vars false #[Value.agg #[.slice none 0 0], Value.agg #[.string ⟨#[]⟩, .slice none 0 0], .string ⟨#[]⟩].toList 8 = some ([.agg [.nil], .agg [.lit (.string []), .nil], .lit (.string [])], [], places) :=
  ⟨[], by kernel_rfl⟩

set_option maxRecDepth 100000 in
theorem lifted (os : Os) (started : os.Started) (H : Type) (enc : TypeId × Value → H) (F : Stop.Interp) :
    ReturnsInHanded {} Tryz.checked os 4 .any ((OpenSpec.ofChange Rows.fnExactTermsSpec).preRow enc Tryz.prog Tryz.f4 Rows.fnExactTermsRow.domain false Rows.fnExactTermsRow.laid) (((OpenSpec.ofChange Rows.fnExactTermsSpec).at F).post enc Tryz.prog Tryz.f4 false true false false) := by
  obtain ⟨places, hx⟩ := reads os enc
  refine returnsInHanded_of_row (C := Tryz.checked) (s := OpenSpec.ofChange Rows.fnExactTermsSpec) own started (by kernel_rfl) Tryz.func4
    (witness_row_atRef (enc := enc) (C := Tryz.checked) false (laidWorld os) #[Value.agg #[.slice none 0 0], Value.agg #[.string ⟨#[]⟩, .slice none 0 0], .string ⟨#[]⟩] rfl (by kernel_rfl) (by kernel_rfl) (by kernel_rfl)
      (OpenSpec.preRow_of_cond 8 hx (by kernel_rfl) (fun k hk => by cases hk) (by kernel_rfl) (laid_met os _))) ?_
  intro W base args ds gs before hval hW _ _ _ hL _ _
  exact contract H enc W base args ds gs before hval hW hL

theorem said : Rows.FnExactTermsSaid :=
  OpenClaim.holds_of_cond 4 Tryz.f4 rfl rfl rfl rfl rfl rfl rfl ⟨rfl, rfl, rfl, rfl, rfl⟩ rfl rfl rfl rfl rfl (by kernel_rfl) Tryz.func4 (by kernel_rfl)
    (of_decide_eq_true (by kernel_rfl)) (by unfold Func.isWrapper; rw [if_neg (of_decide_eq_false (by kernel_rfl))]; exact ⟨rfl, rfl⟩)
    (fun os started H enc _ F => by rw [OpenClaim.pre_eq_preRow]; exact lifted os started H enc F)

theorem plain (f : FuncId) (fn : Func) (hf : Tryz.pinned.checked.prog.funcNamed Rows.fnExactTermsRow.func = some f) (hfn : Tryz.pinned.checked.prog.funcs[f]? = some fn) :
    true = Tryz.pinned.checked.prog.looks [] ∧ ∀ (j : Nat) t, fn.params[j]? = some t → Tryz.pinned.checked.prog.wantsStandIn t = false := by
  obtain rfl : f = 4 := Option.some.inj ((show Tryz.prog.funcNamed Rows.fnExactTermsRow.func = some 4 by kernel_rfl).symm.trans hf) |>.symm
  obtain rfl : fn = Tryz.f4 := (Option.some.inj (Tryz.func4.symm.trans hfn)).symm
  refine ⟨by kernel_rfl, fun j t ht => ?_⟩
  rw [Tryz.params4] at ht
  have ht' : t = 24 ∨ t = 27 ∨ t = 9 := by have := Array.mem_of_getElem? ht; simpa using this
  rcases ht' with rfl | rfl | rfl
  · exact (show Tryz.prog.wantsStandIn 24 = false by kernel_rfl)
  · exact (show Tryz.prog.wantsStandIn 27 = false by kernel_rfl)
  · exact (show Tryz.prog.wantsStandIn 9 = false by kernel_rfl)

theorem card : Rows.FnExactTermsCardSaid :=
  Claim7.holds_tied_plain_at .later [] _ _ _ _ said (fun _ h => by cases h) (by kernel_rfl) (fun _ h => by cases h) fnExactTerms_row_tie rfl ⟨rfl, rfl⟩ (by kernel_rfl) rfl plain (by kernel_rfl)
end Go.Proofs.YtgoklapafidpkaaGreatDoor.fnExactTerms

namespace Go.Proofs.YtgoklapafidpkaaGreatDoor
theorem fnExactTerms_holds : Rows.FnExactTermsCardSaid := fnExactTerms.card
#print axioms fnExactTerms_holds
end Go.Proofs.YtgoklapafidpkaaGreatDoor
