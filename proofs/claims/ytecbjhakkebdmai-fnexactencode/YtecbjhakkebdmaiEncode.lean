import Derived.Test.YtecbjhakkebdmaiRows
import Derived.WalkKit
import Derived.ProofKit
import Derived.OpenShut
import Derived.ShutString
import Derived.ChangeOld
import Derived.Below
import Derived.Test.YtecbjhakkebdmaiImpl
namespace Go.Proofs.Ytecbjhakkebdmai
open Go Go.RowKit
theorem own_lt {w : World} {base e g n cap : Nat} {xs : List Value} (h : w.ownsRow base e 1 (.slice (some ⟨g, 0, none⟩) n cap) n xs) : g < w.heap.size := by
  rcases h.2 with ⟨h', _⟩ | ⟨g', cap', cur, h', _, hg, _⟩
  · simp at h'
  · simp only [Value.slice.injEq, Option.some.injEq, Addr.mk.injEq, and_true, true_and] at h'
    obtain ⟨rfl, rfl⟩ := h'
    exact (Array.getElem?_eq_some_iff.1 hg).1
theorem cell_lt {w : World} {b off : Nat} {v : Value} (h : w.cell? ⟨b, off, none⟩ = some v) : b < w.heap.size := by
  by_cases hb : b < w.heap.size
  · exact hb
  · have : w.heap[b]? = none := Array.getElem?_eq_none (by omega)
    simp [World.cell?, this] at h
theorem own_cells {w : World} {base g n cap : Nat} {zs : List Int} (h : w.ownsRow base 3 1 (.slice (some ⟨g, 0, none⟩) n cap) n (zs.map (Value.int .i64))) (hl : zs.length = n) :
    ∀ t, t < n → w.cell? ⟨g, 0 + t, none⟩ = some (.int .i64 (zs.getD t 0)) := by
  intro t ht
  rw [Nat.zero_add, h.cellAt t (by omega)]
  simp [hl, ht]
end Go.Proofs.Ytecbjhakkebdmai
namespace Go.Proofs.Ytecbjhakkebdmai.fnExactEncode
open Go.ChangeShapes Go.WideShapes Go.ChangeAt Go.RowKit
open Go.ChangeMaps (open_string shut_string)
set_option linter.unusedVariables false

theorem own : ownKnob Try.prog.godebug = none := by kernel_rfl
theorem laidOut : laidOutB Try.prog = true := by kernel_rfl

def IsRow (k : IntKind) (w : World) (a : Option Addr) (len cap : Nat) (zs : List Int) : Prop :=
  (a = none ∧ len = 0 ∧ cap = 0 ∧ zs = []) ∨
  ∃ x, a = some x ∧ len ≤ cap ∧ cap ≤ maxLen ∧ zs.length = cap ∧ (∀ i, i < zs.length → w.cell? (x.add i) = some (.int k (zs.getD i 0))) ∧ ∀ n ∈ zs, (Lit.int k n).wf = true

theorem law_some (b off n cap : Nat) (zs : List Int) (w : World) (hl : zs.length = n) (hb : b < w.heap.size)
    (hc : ∀ t, t < n → w.cell? ⟨b, off + t, none⟩ = some (.int .i64 (zs.getD t 0))) :
    Calls Try.prog 3 #[.slice (some ⟨b, off, none⟩) n cap] w fun e w' => e = .returned (.bool true) ∧ Below w.heap.size w w' := by
  by_cases hlong : 1048576 < n
  · have hlz : (1048576 : Int) < (n : Int) := by omega
    go_enter Try.func3, Try.ntmps3
    go_wp2
    go_ret
    exact ⟨rfl, Below.refl _ _⟩
  · have hlz : ¬ (1048576 : Int) < (n : Int) := by omega
    have Hc := hidd hc
    clear hc
    go_enter Try.func3, Try.ntmps3
    go_wp2_with fail
    refine (toInts_some b off n cap zs _ (by omega) hl hb Hc.out).mono ?_
    rintro e w1 ⟨rfl, hown1, hb1⟩
    have Hown1 := hidd hown1
    have hz1 : w.heap.size < w1.heap.size := own_lt hown1
    clear hown1
    go_wp2_with fail
    refine (specEncode_any w.heap.size 0 n n zs _ (by omega) hl hz1 (own_cells Hown1.out hl)).mono ?_
    rintro e w2 ⟨rfl, hb2⟩
    have Hbel2 : Hid (Below w.heap.size w w2) := hb1.trans (hb2.mono (by omega))
    have hz2 : w.heap.size ≤ w2.heap.size := Hbel2.out.size
    clear hb1 hb2 Hown1 hz1
    go_wp2_with fail
    refine (toInts_some b off n cap zs _ (by omega) hl (by omega) (fun t ht => (Hbel2.out.cell (p := ⟨b, off + t, none⟩) hb).trans (Hc.out t ht))).mono ?_
    rintro e w3 ⟨rfl, hown3, hb3⟩
    have Hown3 := hidd hown3
    have Hbel3 : Hid (Below w.heap.size w w3) := Hbel2.out.trans (hb3.mono hz2)
    have hz3 : w2.heap.size < w3.heap.size := own_lt hown3
    clear hown3 hb3
    go_wp2_with fail
    refine (implEncode_any w2.heap.size 0 n n zs _ (by omega) hl hz3 (own_cells Hown3.out hl)).mono ?_
    rintro e w4 ⟨rfl, hb4⟩
    have Hbel4 : Hid (Below w.heap.size w w4) := Hbel3.out.trans (hb4.mono (by omega))
    have Hc4 : Hid (∀ t, t < n → w4.cell? ⟨w2.heap.size, 0 + t, none⟩ = some (.int .i64 (zs.getD t 0))) := fun t ht => (hb4.cell (p := ⟨w2.heap.size, 0 + t, none⟩) hz3).trans (own_cells Hown3.out hl t ht)
    have hz4 : w3.heap.size ≤ w4.heap.size := hb4.size
    clear hb4 Hown3
    generalize ansText zs = T
    generalize ansCode zs = C
    go_wp2_with fail
    refine (toInts_some b off n cap zs _ (by omega) hl (by have := Hbel4.out.size; omega) (fun t ht => (Hbel4.out.cell (p := ⟨b, off + t, none⟩) hb).trans (Hc.out t ht))).mono ?_
    rintro e w5 ⟨rfl, hown5, hb5⟩
    have Hbel5 : Hid (Below w.heap.size w w5) := Hbel4.out.trans (hb5.mono Hbel4.out.size)
    have Hc5 : Hid (∀ t, t < n → w5.cell? ⟨w2.heap.size, 0 + t, none⟩ = some (.int .i64 (zs.getD t 0))) := fun t ht => (hb5.cell (p := ⟨w2.heap.size, 0 + t, none⟩) (by show w2.heap.size < w4.heap.size; omega)).trans (Hc4.out t ht)
    have Hd5 := hidd (own_cells hown5 hl)
    clear hown5 hb5 Hc4
    go_wp2_with fail
    refine (eqInts_same w2.heap.size 0 n w4.heap.size 0 n n zs _ (by omega) Hc5.out Hd5.out).mono ?_
    rintro e w6 ⟨rfl, m, rfl⟩
    go_wp2
    go_ret
    exact ⟨rfl, below_drewN Hbel5.out m⟩

theorem law_none (ao : Option Addr) (cap : Nat) (w : World) :
    Calls Try.prog 3 #[.slice ao 0 cap] w fun e w' => e = .returned (.bool true) ∧ Below w.heap.size w w' := by
  have hl : ([] : List Int).length = 0 := rfl
  go_enter Try.func3, Try.ntmps3
  go_wp2_with fail
  refine (toInts_none ao cap _).mono ?_
  rintro e w1 ⟨rfl, hown1, hb1⟩
  have hz1 : w.heap.size < w1.heap.size := own_lt hown1
  clear hown1
  go_wp2_with fail
  refine (specEncode_any w.heap.size 0 0 0 [] _ (by omega) hl hz1 (fun t ht => absurd ht (by omega))).mono ?_
  rintro e w2 ⟨rfl, hb2⟩
  have Hbel2 : Hid (Below w.heap.size w w2) := hb1.trans (hb2.mono (by omega))
  have hz2 : w.heap.size ≤ w2.heap.size := Hbel2.out.size
  clear hb1 hb2 hz1
  go_wp2_with fail
  refine (toInts_none ao cap _).mono ?_
  rintro e w3 ⟨rfl, hown3, hb3⟩
  have Hbel3 : Hid (Below w.heap.size w w3) := Hbel2.out.trans (hb3.mono hz2)
  have hz3 : w2.heap.size < w3.heap.size := own_lt hown3
  clear hown3 hb3
  go_wp2_with fail
  refine (implEncode_any w2.heap.size 0 0 0 [] _ (by omega) hl hz3 (fun t ht => absurd ht (by omega))).mono ?_
  rintro e w4 ⟨rfl, hb4⟩
  have Hbel4 : Hid (Below w.heap.size w w4) := Hbel3.out.trans (hb4.mono (by omega))
  clear hb4
  generalize ansText [] = T
  generalize ansCode [] = C
  go_wp2_with fail
  refine (toInts_none ao cap _).mono ?_
  rintro e w5 ⟨rfl, hown5, hb5⟩
  have Hbel5 : Hid (Below w.heap.size w w5) := Hbel4.out.trans (hb5.mono Hbel4.out.size)
  clear hown5 hb5
  go_wp2_with fail
  refine (eqInts_same w2.heap.size 0 0 w4.heap.size 0 0 0 [] _ (by omega) (fun t ht => absurd ht (by omega)) (fun t ht => absurd ht (by omega))).mono ?_
  rintro e w6 ⟨rfl, m, rfl⟩
  go_wp2
  go_ret
  exact ⟨rfl, below_drewN Hbel5.out m⟩

theorem walk (a0 : Option Addr) (len0 cap0 : Nat) (z0 : List Int) (w : World) (w0 : IsRow .i64 w a0 len0 cap0 z0) :
    Calls Try.prog 3 #[.slice a0 len0 cap0] w fun e w' => e = .returned (.bool true) ∧ Below w.heap.size w w' := by
  rcases w0 with ⟨rfl, rfl, rfl, rfl⟩ | ⟨x, rfl, hlc, hcm, hzl, hcell, _⟩
  · exact law_none _ _ _
  · by_cases h0 : len0 = 0
    · subst h0; exact law_none _ _ _
    · obtain ⟨b, off, rfl, hc⟩ := ints_at hcell (by omega)
      have hb : b < w.heap.size := cell_lt (hc 0 (by omega))
      refine law_some b off len0 cap0 (z0.take len0) w (by simp; omega) hb (fun t ht => ?_)
      rw [hc t (by omega)]
      congr 2
      simp [ht]

set_option maxRecDepth 100000 in
theorem lifted (os : Os) (started : os.Started) (H : Type) (enc : TypeId × Value → H) :
    ReturnsInHanded {} Try.checked os 3 .any (Rows.fnExactEncodeSpec.pre6 enc Try.prog Try.f3 Rows.fnExactEncodeRow.domain false) (Rows.fnExactEncodeSpec.post enc Try.prog Try.f3 false true false false) := by
  refine returnsInHanded_of_change (C := Try.checked) own started (by kernel_rfl) Try.func3
    (ChangeSpec.witness6 (enc := enc) (C := Try.checked) false ⟨#[], #[.slice none 0 0], []⟩ 8 (by kernel_rfl) (by kernel_rfl) (by kernel_rfl) (by kernel_rfl)) ?_
  intro W base args ds gs before hval0 hW hcnd _
  have hval : ∀ (j : Nat) t v, Try.f3.params[j]? = some t → args[j]? = some v → Value.okWide Try.prog W .any base t v := hval0
  have hW' := hW
  obtain ⟨p, q, hA0, hV, rfl, hfz, hnd⟩ := hW
  have hA : DataW.TrodAll enc Try.prog W 0 (fun _ => true) true Try.f3.params.toList args.toList ds p := hA0
  rw [Try.params3] at hA hval
  obtain ⟨v0, vs0, d0, ds0, p0, q0, hargs, rfl, rfl, h0, r0⟩ := trodAll_cons hA
  obtain ⟨rfl, rfl, rfl⟩ := trodAll_nil r0
  obtain rfl : args = #[v0] := by cases args; simp_all
  obtain ⟨rfl, rfl⟩ := trodVars_none hV
  obtain ⟨a0, len0, cap0, rfl⟩ := okWide_slice Try.underlying22 (hval 0 22 v0 rfl rfl)
  have k0 := h0
  have lt0 : ∀ x ∈ p0, x.block < W.heap.size := by obtain ⟨m, hm⟩ := k0; exact DataW.trod_lt m _ _ _ hm
  obtain ⟨z0, w0⟩ : ∃ zs, IsRow .i64 W a0 len0 cap0 zs := by
    obtain ⟨fuel, hf⟩ := h0
    rcases open_ints Try.underlying22 Try.underlying3 (by kernel_rfl) hf with ⟨hcs, _⟩ | ⟨x, l, c, zs, hcs, _, hl, hm, hz, _, hcell, hwz⟩
    · simp [Value.cells] at hcs
      obtain ⟨rfl, rfl, rfl⟩ := hcs
      exact ⟨[], .inl ⟨rfl, rfl, rfl, rfl⟩⟩
    · simp [Value.cells] at hcs
      obtain ⟨rfl, rfl, rfl⟩ := hcs
      exact ⟨zs, .inr ⟨_, rfl, hl, hm, by simpa using hz, hcell, hwz⟩⟩
  clear hA0 hval0
  refine (walk a0 len0 cap0 z0 W w0).mono fun e W' ⟨he, bel⟩ => ?_
  subst he
  exact ⟨_, rfl, _, _, _, [], _, [], hW', trodAll_mk1 (shut_bool Try.underlying4 _), (trodAll_cons_mk (Below.trod laidOut (by kernel_rfl) (of_decide_eq_true (by kernel_rfl)) k0 bel lt0) trodAll_mk0), rfl, bel.frame _, fun h => by cases h⟩

theorem over : Rows.fnExactEncodeRow.holds Try.pinned (OpenSpec.ofChange Rows.fnExactEncodeSpec) :=
  OpenClaim.holds_of_wide 3 Try.f3 rfl rfl rfl rfl rfl rfl rfl ⟨rfl, rfl, rfl, rfl, rfl⟩ rfl rfl rfl rfl rfl (by kernel_rfl) Try.func3 (by kernel_rfl)
    (of_decide_eq_true (by kernel_rfl)) (by unfold Func.isWrapper; first | (rw [if_pos (by decide +kernel)]; kernel_rfl) | (rw [if_neg (by decide +kernel)]; exact ⟨rfl, rfl⟩))
    (fun os started H enc _ => lifted os started H enc)

theorem proved : Rows.FnExactEncodeSaid := over
end Go.Proofs.Ytecbjhakkebdmai.fnExactEncode

namespace Go.Proofs.Ytecbjhakkebdmai
theorem fnExactEncode_holds : Rows.FnExactEncodeSaid := fnExactEncode.proved
#print axioms fnExactEncode_holds
end Go.Proofs.Ytecbjhakkebdmai
