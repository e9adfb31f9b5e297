import Derived.Test.YtcnjmjcbhelkhaaMergeHitsJ09
import Derived.Test.YtcnjmjcbhelkhaaMergeHitsJ10
import Derived.ControlIn
import Derived.Test.YtcnjmjcbhelkhaaMergeHitsJ08
import Derived.Shelf.Abstract
import Derived.Shelf.Spec.SlicesGrow
import Derived.Ground.Names7Prog
import Derived.Test.YtcnjmjcbhelkhaaProg
import Derived.Maps.AppendAt
namespace Go.Proofs.Ytcnjmjcbhelkhaa
open Go Go.RowKit Go.Shelf
set_option linter.unusedVariables false
set_option maxRecDepth 100000

/-! A range over a function whose body may break. -/
def stopL (r : Loop) (id : Nat) : Loop := { r with state := .done, pending := some (.exit id) }
def YieldB {α β : Type} (args : β → Array Value) (P : Program) (h : Nat) (r : Loop) (id : Nat) (I : α → World → Prop) (S : World → Prop) (T : α → β → α → Prop) (Fr : World → World → Prop) : Prop := ∀ (m : Nat) (x : α) (v : β) (y : α) (W : World), T x v y → I x W → RecAt h r W →
  YieldAt Fence.wide m P (h + 1) (args v) W fun e W' => (e = .returned (.bool true) ∧ I y W' ∧ Fr W W' ∧ RecAt h r W') ∨ (e = .returned (.bool false) ∧ S W' ∧ RecAt h (stopL r id) W')
theorem range_brk {α β : Type} {n : Nat} {P : Program} {g : Operand} {ps : Array Tmp} {assign body : Go.Code} {Q : Exit → Act → World → Prop} {a : Act} {w : World} {gf : Nat} {lb : Array Value} (id : Nat)
    (hg : a.eval g = .func (.func gf) #[] lb) (eg : ∀ args w, (callFunc gf args).run P w = .ok (.enter gf args) w)
    (I : α → World → Prop) (S : World → Prop) (T : α → β → α → Prop) (Fr : World → World → Prop) (fin : α → Prop) (x0 : α) (args : β → Array Value) (hps : ∀ x v y, T x v y → (args v).size = ps.size)
    (hput : ∀ x W o, I x W → I x (W.putObj (w.heap.size + 1) o)) (hputS : ∀ W o, S W → S (W.putObj (w.heap.size + 1) o))
    (hFt : ∀ a b c, Fr a b → Fr b c → Fr a c) (hFp : ∀ (W : World) (r : Loop) o, W.heap[w.heap.size + 1]? = some (.loop r) → Fr W (W.putObj (w.heap.size + 1) o))
    (h0 : ∀ W1, Below w.heap.size w W1 → W1.heap.size = w.heap.size + 2 → I x0 W1)
    (hit : ∀ (r : Loop) (W1 : World), Below w.heap.size w W1 → YieldB args P w.heap.size r id I S T Fr → I x0 W1 → RecAt w.heap.size r W1 →
      CallsIn Fence.wide (n - 1) P gf (#[.func (.yield (w.heap.size + 1)) #[] #[]] ++ lb) W1 fun e W' => (∃ v, e = .returned v) ∧ ((∃ x, fin x ∧ I x W' ∧ RecAt w.heap.size r W') ∨ (S W' ∧ RecAt w.heap.size (stopL r id) W')))
    (a₁ : β → World → Act) (aW : β → World → World)
    (hassign : ∀ (l m : Nat) (x : α) (v : β) (y : α) (W : World) (K : Act → World → Prop), T x v y → K (a₁ v W) (aW v W) → assign.wpIn (Fence.wide.inRound l) m P (Exit.then K (fun _ _ _ => False)) { tmps := (ps.zip (args v)).foldl (fun t (p, v) => t.setIfInBounds p v) a.tmps, defers := [] } W)
    (hAW : ∀ (x : α) (v : β) (y : α) (W : World), T x v y → I x W → w.heap.size + 1 < W.heap.size → I x (aW v W) ∧ Fr W (aW v W) ∧ ∀ b, b ≤ w.heap.size + 1 → (aW v W).heap[b]? = W.heap[b]?)
    (hbody : ∀ (m : Nat) (x : α) (v : β) (y : α) (W : World) (o : Obj), T x v y → I x W → w.heap.size + 1 < W.heap.size →
      body.wpIn (Fence.wide.inRound (w.heap.size + 1)) m P (fun e _ W' => ((e = .normal ∧ I y W' ∧ Fr ((aW v W).putObj (w.heap.size + 1) o) W') ∨ (e = .exit id ∧ S W')) ∧ W'.heap[w.heap.size]? = ((aW v W).putObj (w.heap.size + 1) o).heap[w.heap.size]? ∧ W'.heap[w.heap.size + 1]? = ((aW v W).putObj (w.heap.size + 1) o).heap[w.heap.size + 1]?) (a₁ v W) ((aW v W).putObj (w.heap.size + 1) o))
    (hdone : ∀ (x : α) (W' : World), fin x → I x W' → W'.heap[w.heap.size]? = some (.deferred (some [])) → Q .normal { a with defers := { target := .collected w.heap.size, args := #[] } :: a.defers } W')
    (hbrk : ∀ W' : World, S W' → W'.heap[w.heap.size]? = some (.deferred (some [])) → Q (.exit id) { a with defers := { target := .collected w.heap.size, args := #[] } :: a.defers } W') :
    (Code.rangeFunc g ps assign body).wpIn Fence.wide n P Q a w := by
  refine wpIn_rangeFunc fun fn hfn => ?_
  obtain ⟨r0, hr0⟩ : ∃ r0 : Loop, r0 = { state := .ready, pending := none, fn, tmps := a.tmps, params := ps, assign, body, defers := w.heap.size } := ⟨_, rfl⟩
  obtain ⟨W1, hW1⟩ : ∃ W1, (w.alloc (.deferred (some []))).alloc (.loop r0) = W1 := ⟨_, rfl⟩
  have hB1 : Below w.heap.size w W1 := by rw [← hW1]; exact ((Below.refl _ w).alloc (Nat.le_refl _) _).alloc (by simp) _
  have hz1 : W1.heap.size = w.heap.size + 2 := by rw [← hW1]; simp
  have hC1 : RecAt w.heap.size r0 W1 := by
    refine ⟨?_, ?_⟩
    · rw [← hW1]; have := World.alloc_heap_new (w.alloc (.deferred (some []))) (.loop r0); rwa [World.size_alloc] at this
    · rw [← hW1]; exact (Below.heap_alloc _ _ _ (by simp)).trans (World.alloc_heap_new w _)
  refine ⟨w.heap.size + 1, [{ target := .collected w.heap.size, args := #[] }], W1, { target := .fn (.func gf) lb, args := #[.func (.yield (w.heap.size + 1)) #[] #[]] }, W1, gf,
    #[.func (.yield (w.heap.size + 1)) #[] #[]] ++ lb, W1, ?_, ?_, fun _ _ => trivial, ?_, fun h => (by cases h), ?_⟩
  · rw [← hW1, hr0]; exact run_enterLoop_outer _ _ _ _ _
  · simp only [resolve, hg]
    simp [go_sem]
  · simp [invoke, go_sem, eg]
  · refine (hit r0 W1 hB1 ?_ (h0 W1 hB1 hz1) hC1).mono ?_
    · intro m x v y W hT hI hc
      have hl := hc.rc
      have hlt : w.heap.size + 1 < W.heap.size := (Array.getElem?_eq_some_iff.1 hl).1
      have hy := run_yield (P := P) (args := args v) hl (by rw [hr0]; exact hps x v y hT)
      rw [hr0] at hy
      obtain ⟨hIA, hFA, hKA⟩ := hAW x v y W hT hI hlt
      have hlA : (aW v W).heap[w.heap.size + 1]? = some (.loop r0) := (hKA _ (Nat.le_refl _)).trans hl
      have hltA : w.heap.size + 1 < (aW v W).heap.size := (Array.getElem?_eq_some_iff.1 hlA).1
      refine ⟨fn, _, assign, body, hy, roundIn_of_wpIn hfn (hassign _ m x v y W _ hT ⟨_, run_beginRound hlA (by rw [hr0]), ?_⟩)⟩
      obtain ⟨W2, hW2⟩ : ∃ W2, (aW v W).putObj (w.heap.size + 1) (.loop { r0 with state := .busy }) = W2 := ⟨_, rfl⟩
      have hl2 : W2.heap[w.heap.size + 1]? = some (.loop { r0 with state := .busy }) := by rw [← hW2]; exact World.putObj_heap_same hltA
      have hd2 : W2.heap[w.heap.size]? = some (.deferred (some [])) := by rw [← hW2]; exact (World.putObj_heap_other (by omega)).trans ((hKA _ (by omega)).trans hc.df)
      have hbd := hbody m x v y W (.loop { r0 with state := .busy }) hT hI hlt
      rw [hW2] at hbd ⊢
      refine wpIn_mono hbd ?_
      rintro e a3 W3 ⟨hor, hd3, hr3⟩
      have hl3 : W3.heap[w.heap.size + 1]? = some (.loop { r0 with state := .busy }) := hr3.trans hl2
      have hlt3 := (Array.getElem?_eq_some_iff.1 hl3).1
      rcases hor with ⟨rfl, hI3, hF3⟩ | ⟨rfl, hS3⟩
      · have hend := run_endRound (P := P) none hl3
        have hrec : ({ { r0 with state := .busy } with state := if (none : Option Go.Code).isNone then .ready else .done, pending := none } : Loop) = r0 := by rw [hr0]; rfl
        rw [hrec] at hend
        exact ⟨_, _, hend, Or.inl ⟨rfl, hput _ _ _ hI3, hFt _ _ _ (hFt _ _ _ (hFt _ _ _ hFA (by rw [← hW2]; exact hFp (aW v W) _ _ hlA)) hF3) (hFp W3 _ _ hl3), World.putObj_heap_same hlt3, (World.putObj_heap_other (by omega)).trans (hd3.trans hd2)⟩⟩
      · have hend := run_endRound (P := P) (some (.exit id)) hl3
        exact ⟨_, _, hend, Or.inr ⟨rfl, hputS _ _ hS3, World.putObj_heap_same hlt3, (World.putObj_heap_other (by omega)).trans (hd3.trans hd2)⟩⟩
    · rintro e W2 ⟨⟨v, rfl⟩, hor⟩
      rcases hor with ⟨x, hf, hI2, hc⟩ | ⟨hS2, hc⟩
      · have hend := run_endLoop (P := P) hc.rc (by rw [hr0]; simp)
        have hpn : r0.pending = none := by rw [hr0]
        rw [hpn] at hend
        exact ⟨none, _, hend, hdone x _ hf (hput _ _ _ hI2) ((World.putObj_heap_other (by omega)).trans hc.df)⟩
      · have hend := run_endLoop (P := P) hc.rc (by simp [stopL])
        exact ⟨some (.exit id), _, hend, wpIn_exit (hbrk _ (hputS _ _ hS2) ((World.putObj_heap_other (by omega)).trans hc.df))⟩
theorem region_roundE (S : World → Prop) (z : Nat) {id l m : Nat} {P : Program} {ops : Array Oper} {Q : Exit → Act → World → Prop} {a : Act} {w : World} (hm : P.follows .mixedOrders = true) (hd : noDefer ops = true) (hno : ¬ LetsOut Q)
    (h : wpAnyE P .any ops Q S z ops.size (Array.replicate ops.size false) a w.drew) : (Code.region id ops true).wpIn (Fence.wide.inRound l) m P Q a w :=
  wpIn_region_any hm (wpAnyIn_round hd hno _ _ _ _ (wpAny_of_E _ _ _ _ h))
end Go.Proofs.Ytcnjmjcbhelkhaa

namespace Go.Proofs.Ytcnjmjcbhelkhaa
open Go Go.RowKit Go.Shelf
set_option linter.unusedVariables false
set_option maxRecDepth 100000
set_option linter.unusedSimpArgs false

/-! What makes lists that can't be merged, by the program. -/
theorem isLong_any (w : World) (ra : Option Addr) (n rc : Nat) :
    Calls Try.prog 32 #[.slice ra n rc] w fun e w' => e = .returned (.bool (decide (n > 4096))) ∧ w' = w := by
  go_enter Try.func32, Try.ntmps32
  go_wp2_with fail
  go_ret
  refine ⟨?_, rfl⟩
  show Ending.returned (Value.bool (decide ((4096 : Int) < (n : Int)))) = _
  congr 2
  exact decide_eq_decide.2 (by omega)
theorem isUnlike_any (w : World) (B : Nat) (sa : Option Addr) (sc m : Nat) (x : ByteArray) (z : Int) (fa : Option Addr) (n fc : Nat) (hB : w.cell? ⟨B, 0, none⟩ = some (.slice sa m sc)) :
    Calls Try.prog 33 #[.agg #[.string x, .int .i64 z, .slice fa n fc], .pointer (some ⟨B, 0, none⟩)] w fun e w' => e = .returned (.bool (decide (n ≠ m))) ∧ Below w.heap.size w w' := by
  have hB2 : (w.alloc (.cells #[.string x, .int .i64 z, .slice fa n fc] 47)).cell? ⟨B, 0, none⟩ = some (.slice sa m sc) := (((Below.refl _ _).alloc (Nat.le_refl _) _).cell (p := ⟨B, 0, none⟩) (cell_lt hB)).trans hB
  clear hB
  go_enter Try.func33, Try.ntmps33
  go_wp2_with fail
  go_ret
  refine ⟨?_, (Below.refl _ _).alloc (Nat.le_refl _) _⟩
  show Ending.returned (Value.bool ((n : Int) != (m : Int))) = _
  congr 2
  rw [Bool.eq_iff_iff]
  simp
  omega
/-- The place of the first list that the function takes. -/
def idxL {α : Type} (p : α → Bool) (l : List α) : Int := if l.any p then ((l.findIdx p : Nat) : Int) else -1
theorem idxL_hit {α : Type} {p : α → Bool} {l : List α} {d : α} {k : Nat} (hk : k < l.length) (hno : ∀ j, j < k → p (l.getD j d) = false) (hp : p (l.getD k d) = true) : idxL p l = (k : Int) := by
  have hg : ∀ j (hj : j < l.length), l.getD j d = l[j] := fun j hj => by simp [hj]
  have h1 : l.any p = true := List.any_eq_true.2 ⟨l[k], List.getElem_mem hk, by rw [← hg k hk]; exact hp⟩
  have h2 : l.findIdx p = k := by
    rw [List.findIdx_eq hk]
    exact ⟨by rw [← hg k hk]; exact hp, fun j hj => by rw [← hg j (by omega), hno j hj]⟩
  rw [idxL, if_pos h1, h2]
theorem idxL_none {α : Type} {p : α → Bool} {l : List α} {d : α} (hno : ∀ j, j < l.length → p (l.getD j d) = false) : idxL p l = -1 := by
  have h1 : l.any p = false := by
    rw [List.any_eq_false]
    intro x hx
    obtain ⟨j, hj, rfl⟩ := List.getElem_of_mem hx
    have := hno j hj
    simp only [List.getD_eq_getElem?_getD, List.getElem?_eq_getElem hj, Option.getD_some] at this
    simp [this]
  rw [idxL, h1]; rfl
theorem idxL_any {α : Type} (p : α → Bool) (l : List α) : decide (idxL p l ≥ 0) = l.any p := by
  unfold idxL
  cases l.any p
  · simp
  · simp
/-- What a function that is asked of lists does. -/
def PredL (g : FuncId) (lb : Array Value) (p : List Fd → Bool) (w0 : World) (L : List (List Fd)) : Prop := ∀ (W : World) (i : Nat) (ra : Option Addr) (rc : Nat), i < L.length → Below w0.heap.size w0 W → HoldFd W ra (L.getD i []) → Calls Try.prog g (#[.slice ra (L.getD i []).length rc] ++ lb) W fun e w' => e = .returned (.bool (p (L.getD i []))) ∧ Below W.heap.size W w'
set_option maxHeartbeats 8000000 in
theorem indexLL_any (g : FuncId) (lb : Array Value) (p : List Fd → Bool) (w : World) (la : Option Addr) (lc : Nat) (L : List (List Fd)) (hL : HoldFF w la L) (hn : L.length ≤ 1048576)
    (eg : ∀ args w, (callFunc g args).run Try.prog w = .ok (.enter g args) w) (hP : PredL g lb p w L) :
    Calls Try.prog 54 #[.slice la L.length lc, .func (.func g) #[] lb] w fun e w' => e = .returned (.int .i64 (idxL p L)) ∧ Below w.heap.size w w' := by
  have HL := hidd hL
  have HP := hidd hP
  obtain ⟨N, hN⟩ : ∃ N, L.length = N := ⟨_, rfl⟩
  have HN := hidd hN
  rw [hN] at hn ⊢
  clear hL hP hN
  go_enter Try.func54, Try.ntmps54
  go_wp2_with fail
  go_loopw [8] (fun i wx => ∃ k : Nat, k ≤ N ∧ i = .int .i64 k ∧ (∀ j, j < k → p (L.getD j []) = false) ∧ Below w.heap.size w wx) (fun i _ => N - (intOf i).toNat)
  case atStart => exact ⟨0, by omega, rfl, fun j hj => absurd hj (by omega), Below.refl _ _⟩
  case round =>
    obtain ⟨k, hk, rfl, hno, hbx⟩ := hrel
    have HNo := hidd hno
    have HB := hidd hbx
    clear hno hbx
    by_cases hlt : k < N
    · have hkz : (k : Int) < (N : Int) := by omega
      obtain ⟨b, off, rfl, hbl, ra, rc, hcell, hrc, hfd⟩ : ∃ b off, la = some ⟨b, off, none⟩ ∧ b < wr.heap.size ∧ ∃ ra rc, wr.cell? ⟨b, off + k, none⟩ = some (.slice ra (L.getD k []).length rc) ∧ (L.getD k []).length ≤ rc ∧ HoldFd wr ra (L.getD k []) := by
        rcases HL.out.below HB.out with h | ⟨b, off, ha, hbl, h⟩
        · have := HN.out; rw [h] at this; simp at this; omega
        · exact ⟨b, off, ha, hbl, h k (by rw [HN.out]; exact hlt)⟩
      have HPk := hidd (HP.out wr k ra rc (by rw [HN.out]; exact hlt) HB.out hfd)
      obtain ⟨n, hnn⟩ : ∃ n, (L.getD k []).length = n := ⟨_, rfl⟩
      rw [hnn] at hcell HPk
      clear hfd hrc hnn
      cases hp : p (L.getD k [])
      · have HPn : Hid (∀ j, j < k + 1 → p (L.getD j []) = false) := fun j hj => by
          by_cases h : j < k
          · exact HNo.out j h
          · have : j = k := by omega
            subst this
            exact hp
        rw [hp] at HPk
        clear hp
        go_wp2_with (go_at_fn g; refine HPk.out.mono ?_; rintro e w2 ⟨rfl, hb2⟩)
        go_roundw
        case rel => exact ⟨k + 1, by omega, by go_num, HPn.out, HB.out.trans (hb2.mono HB.out.size)⟩
        case measure => simp [intOf]; omega
      · have HR : Hid (idxL p L = (k : Int)) := idxL_hit (by rw [HN.out]; exact hlt) HNo.out hp
        rw [hp] at HPk
        clear hp
        go_wp2_with (go_at_fn g; refine HPk.out.mono ?_; rintro e w2 ⟨rfl, hb2⟩)
        go_ret
        exact ⟨by rw [HR.out]; rfl, HB.out.trans (hb2.mono HB.out.size)⟩
    · have hkz : ¬ (k : Int) < (N : Int) := by omega
      have HR : Hid (idxL p L = -1) := idxL_none (d := []) fun j hj => HNo.out j (by rw [HN.out] at hj; omega)
      go_wp2_with fail
      go_ret
      exact ⟨by rw [HR.out]; rfl, HB.out⟩
theorem containsLL_any (g : FuncId) (lb : Array Value) (p : List Fd → Bool) (w : World) (la : Option Addr) (lc : Nat) (L : List (List Fd)) (hL : HoldFF w la L) (hn : L.length ≤ 1048576)
    (eg : ∀ args w, (callFunc g args).run Try.prog w = .ok (.enter g args) w) (hP : PredL g lb p w L) :
    Calls Try.prog 37 #[.slice la L.length lc, .func (.func g) #[] lb] w fun e w' => e = .returned (.bool (L.any p)) ∧ Below w.heap.size w w' := by
  have HI := hidd (indexLL_any g lb p w la lc L hL hn eg hP)
  have HA := hidd (idxL_any p L)
  clear hL hP
  go_enter Try.func37, Try.ntmps37
  go_wp2_with fail
  refine HI.out.mono ?_
  rintro e w' ⟨rfl, hb⟩
  have HB := hidd hb
  clear hb HI
  generalize idxL p L = z at *
  go_wp2_with fail
  go_ret
  exact ⟨by rw [← HA.out]; rfl, HB.out⟩
end Go.Proofs.Ytcnjmjcbhelkhaa

namespace Go.Proofs
open Go.Shelf
def Try.laysGrow_ren : Go.Shelf.Ren := ⟨fun | 4 => 56 | n => n, fun | 22 => 26 | 25 => 47 | 3 => 3 | 4 => 4 | 9 => 9 | 20 => 20 | 0 => 0 | n => n, fun | n => n⟩
theorem Try.laysGrow : Go.Proofs.Lays8.n4 Try.prog Try.laysGrow_ren := {
  mixed := by kernel_rfl
  f4 := ⟨Try.f56.name, by decide, Try.func56.trans (congrArg some (by kernel_rfl))⟩
  t0 := Try.underlying0
  a0 := Try.isAgg0
  z0 := Try.sizeOf0
  v0 := Try.zeroValue0
  t3 := Try.underlying3
  a3 := Try.isAgg3
  z3 := Try.sizeOf3
  v3 := Try.zeroValue3
  t4 := Try.underlying4
  a4 := Try.isAgg4
  z4 := Try.sizeOf4
  v4 := Try.zeroValue4
  t9 := Try.underlying9
  a9 := Try.isAgg9
  z9 := Try.sizeOf9
  v9 := Try.zeroValue9
  t20 := Try.underlying20
  a20 := Try.isAgg20
  z20 := Try.sizeOf20
  v20 := Try.zeroValue20
  t22 := Try.underlying26
  a22 := Try.isAgg26
  z22 := Try.sizeOf26
  v22 := Try.zeroValue26 }
end Go.Proofs

namespace Go.Proofs.Ytcnjmjcbhelkhaa
open Go Go.RowKit Go.Shelf
set_option linter.unusedVariables false
set_option maxRecDepth 100000
set_option linter.unusedSimpArgs false

/-! Hits of which only the number of keys is asked; lists in order; lists put together. -/
def CelF (xs : List Value) (L : List Fd) : Prop := ∀ i, i < L.length → ∃ ka kc, xs[i * 3]? = some (.string (bs (L.getD i fd0).1)) ∧ xs[i * 3 + 1]? = some (.int .i64 (L.getD i fd0).2.1) ∧ xs[i * 3 + 2]? = some (.slice ka (L.getD i fd0).2.2.length kc)
def oddF (m : Nat) (f : Fd) : Bool := decide (f.2.2.length ≠ m)
set_option maxHeartbeats 8000000 in
theorem indexFd_any (w : World) (base B m : Nat) (sa : Option Addr) (sc : Nat) (v : Value) (L : List Fd) (xs : List Value) (hv : w.ownsRow base 47 3 v L.length xs) (hx : CelF xs L) (hn : L.length ≤ 1048576) (hB : w.cell? ⟨B, 0, none⟩ = some (.slice sa m sc)) :
    Calls Try.prog 55 #[v, .func (.func 33) #[] #[.pointer (some ⟨B, 0, none⟩)]] w fun e w' => e = .returned (.int .i64 (idxL (oddF m) L)) ∧ Below w.heap.size w w' := by
  have HV := hidd hv
  have HX := hidd hx
  have HB0 := hidd hB
  obtain ⟨N, hN⟩ : ∃ N, L.length = N := ⟨_, rfl⟩
  have HN := hidd hN
  obtain ⟨va, vc, rfl⟩ : ∃ a c, v = .slice a N c := by
    rcases hv.2 with ⟨h1, h2⟩ | ⟨g, cap, cur, h1, _⟩
    · exact ⟨none, 0, by rw [h1, ← hN, h2]⟩
    · exact ⟨_, _, by rw [h1, hN]⟩
  rw [hN] at hn
  clear hv hx hN hB
  go_enter Try.func55, Try.ntmps55
  go_wp2_with fail
  go_loopw [8] (fun i wx => ∃ k : Nat, k ≤ N ∧ i = .int .i64 k ∧ (∀ j, j < k → oddF m (L.getD j fd0) = false) ∧ Below w.heap.size w wx) (fun i _ => N - (intOf i).toNat)
  case atStart => exact ⟨0, by omega, rfl, fun j hj => absurd hj (by omega), Below.refl _ _⟩
  case round =>
    obtain ⟨k, hk, rfl, hno, hbx⟩ := hrel
    have HNo := hidd hno
    have HB := hidd hbx
    clear hno hbx
    by_cases hlt : k < N
    · have hkz : (k : Int) < (N : Int) := by omega
      obtain ⟨g, hg, ka, kc, c0, c1, c2⟩ : ∃ g, va = some ⟨g, 0, none⟩ ∧ ∃ ka kc, wr.cell? ⟨g, k * 3, none⟩ = some (.string (bs (L.getD k fd0).1)) ∧ wr.cell? ⟨g, k * 3 + 1, none⟩ = some (.int .i64 (L.getD k fd0).2.1) ∧ wr.cell? ⟨g, k * 3 + 2, none⟩ = some (.slice ka (L.getD k fd0).2.2.length kc) := by
        have hv := HV.out
        rw [HN.out] at hv
        obtain ⟨ka, kc, h0, h1, h2⟩ := HX.out k (by rw [HN.out]; exact hlt)
        have hl := hv.1
        rcases hv.2 with ⟨h3, h4⟩ | ⟨g, cap, cur, h3, _, hgh, _⟩
        · omega
        · injection h3 with h5 h6 h7
          subst h5
          have hgl := (Array.getElem?_eq_some_iff.1 hgh).1
          refine ⟨g, rfl, ka, kc, ?_, ?_, ?_⟩
          · rw [HB.out.cell (p := ⟨g, k * 3, none⟩) hgl, hv.cellAt (k * 3) (by omega)]; exact h0
          · rw [HB.out.cell (p := ⟨g, k * 3 + 1, none⟩) hgl, hv.cellAt (k * 3 + 1) (by omega)]; exact h1
          · rw [HB.out.cell (p := ⟨g, k * 3 + 2, none⟩) hgl, hv.cellAt (k * 3 + 2) (by omega)]; exact h2
      subst hg
      have HP : Hid (Calls Try.prog 33 #[.agg #[.string (bs (L.getD k fd0).1), .int .i64 (L.getD k fd0).2.1, .slice ka (L.getD k fd0).2.2.length kc], .pointer (some ⟨B, 0, none⟩)] wr fun e w' => e = .returned (.bool (oddF m (L.getD k fd0))) ∧ Below wr.heap.size wr w') := hidd (isUnlike_any wr B sa sc m (bs (L.getD k fd0).1) (L.getD k fd0).2.1 ka (L.getD k fd0).2.2.length kc ((HB.out.cell (p := ⟨B, 0, none⟩) (cell_lt HB0.out)).trans HB0.out))
      have HR0 : Hid (oddF m (L.getD k fd0) = true → idxL (oddF m) L = (k : Int)) := fun h => idxL_hit (d := fd0) (by rw [HN.out]; exact hlt) HNo.out h
      have HNx : Hid (oddF m (L.getD k fd0) = false → ∀ j, j < k + 1 → oddF m (L.getD j fd0) = false) := fun hp j hj => by
        by_cases h : j < k
        · exact HNo.out j h
        · have : j = k := by omega
          subst this
          exact hp
      generalize oddF m (L.getD k fd0) = r at *
      generalize bs (L.getD k fd0).1 = x at *
      generalize (L.getD k fd0).2.1 = z at *
      generalize (L.getD k fd0).2.2.length = kn at *
      cases r with
      | false =>
        have HNy := hidd (HNx.out rfl)
        clear HNx HR0
        go_wp2_with fail
        refine HP.out.mono ?_
        rintro e w2 ⟨rfl, hb2⟩
        have HB2 := hidd (HB.out.trans (hb2.mono HB.out.size))
        clear hb2
        go_wp2_with fail
        go_roundw
        case rel => exact ⟨k + 1, by omega, by go_num, HNy.out, HB2.out⟩
        case measure => simp [intOf]; omega
      | true =>
        have HR := hidd (HR0.out rfl)
        clear HNx HR0
        go_wp2_with fail
        refine HP.out.mono ?_
        rintro e w2 ⟨rfl, hb2⟩
        have HB2 := hidd (HB.out.trans (hb2.mono HB.out.size))
        clear hb2
        go_wp2_with fail
        go_ret
        exact ⟨by rw [HR.out]; rfl, HB2.out⟩
    · have hkz : ¬ (k : Int) < (N : Int) := by omega
      have HR : Hid (idxL (oddF m) L = -1) := idxL_none (d := fd0) fun j hj => HNo.out j (by rw [HN.out] at hj; omega)
      go_wp2_with fail
      go_ret
      exact ⟨by rw [HR.out]; rfl, HB.out⟩
theorem containsFd_any (w : World) (base B m : Nat) (sa : Option Addr) (sc : Nat) (v : Value) (L : List Fd) (xs : List Value) (hv : w.ownsRow base 47 3 v L.length xs) (hx : CelF xs L) (hn : L.length ≤ 1048576) (hB : w.cell? ⟨B, 0, none⟩ = some (.slice sa m sc)) :
    Calls Try.prog 39 #[v, .func (.func 33) #[] #[.pointer (some ⟨B, 0, none⟩)]] w fun e w' => e = .returned (.bool (L.any (oddF m))) ∧ Below w.heap.size w w' := by
  have HI := hidd (indexFd_any w base B m sa sc v L xs hv hx hn hB)
  have HA := hidd (idxL_any (oddF m) L)
  obtain ⟨va, n, vc, rfl⟩ : ∃ a n c, v = .slice a n c := by
    rcases hv.2 with ⟨h1, h2⟩ | ⟨g, cap, cur, h1, _⟩
    · exact ⟨none, 0, 0, h1⟩
    · exact ⟨_, _, _, h1⟩
  clear hv hx hB
  generalize (L.any (oddF m)) = r at *
  generalize idxL (oddF m) L = z at *
  go_enter Try.func39, Try.ntmps39
  go_wp2_with fail
  refine HI.out.mono ?_
  rintro e w' ⟨rfl, hb⟩
  have HB := hidd hb
  clear hb HI
  go_wp2_with fail
  go_ret
  exact ⟨by rw [← HA.out]; rfl, HB.out⟩
end Go.Proofs.Ytcnjmjcbhelkhaa
