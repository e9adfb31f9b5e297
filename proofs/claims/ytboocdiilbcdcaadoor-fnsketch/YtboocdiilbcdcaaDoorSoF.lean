import Derived.Test.YtboocdiilbcdcaaDoorSoI
namespace Go.Proofs.YtboocdiilbcdcaaDoor
open Go
set_option linter.unusedVariables false

/-! Sketches do not hang on order, plain. -/
def sv : List Tx → Nat → Int
  | [], _ => 0
  | t :: l, i => if slT t = i then max (rkT t : Int) (sv l i) else sv l i
theorem sv_nn : ∀ (l : List Tx) (i : Nat), 0 ≤ sv l i
  | [], _ => by simp [sv]
  | t :: l, i => by have := sv_nn l i; unfold sv; split <;> omega
theorem sv_le {N : Int} (hN : 0 ≤ N) : ∀ (l : List Tx) (i : Nat), sv l i ≤ N ↔ ∀ t ∈ l, slT t = i → (rkT t : Int) ≤ N
  | [], i => by simp [sv, hN]
  | t :: l, i => by
    have ih := sv_le hN l i
    unfold sv
    constructor
    · intro h u hu hs
      rcases List.mem_cons.1 hu with rfl | hu
      · rw [if_pos hs] at h; omega
      · refine ih.1 ?_ u hu hs
        split at h <;> omega
    · intro h
      have h2 := ih.2 fun u hu => h u (List.mem_cons_of_mem _ hu)
      split
      · rename_i hs
        have := h t (List.mem_cons_self ..) hs
        omega
      · exact h2
theorem sv_sub {a b : List Tx} (h : ∀ t ∈ a, t ∈ b) (i : Nat) : sv a i ≤ sv b i :=
  (sv_le (sv_nn b i) a i).2 fun t ht hs => (sv_le (sv_nn b i) b i).1 (Int.le_refl _) t (h t ht) hs
theorem sv_same {a b : List Tx} (h : ∀ t, t ∈ a ↔ t ∈ b) (i : Nat) : sv a i = sv b i :=
  Int.le_antisymm (sv_sub (fun t => (h t).1) i) (sv_sub (fun t => (h t).2) i)
theorem sv_app (a b : List Tx) (i : Nat) : sv (a ++ b) i = max (sv a i) (sv b i) := by
  apply Int.le_antisymm
  · have h0 : 0 ≤ max (sv a i) (sv b i) := by have := sv_nn a i; omega
    refine (sv_le h0 _ i).2 fun t ht hs => ?_
    rcases List.mem_append.1 ht with ht | ht
    · have := (sv_le (sv_nn a i) a i).1 (Int.le_refl _) t ht hs; omega
    · have := (sv_le (sv_nn b i) b i).1 (Int.le_refl _) t ht hs; omega
  · have h1 := sv_sub (a := a) (b := a ++ b) (fun t ht => List.mem_append_left _ ht) i
    have h2 := sv_sub (a := b) (b := a ++ b) (fun t ht => List.mem_append_right _ ht) i
    omega
theorem upS_get {r : List Int} (hr : r.length = 256) (t : Tx) (i : Nat) (hi : i < 256) : (upS r t).getD i 0 = if slT t = i then max (r.getD i 0) (rkT t : Int) else r.getD i 0 := by
  unfold upS
  have hs := slT_lt t
  by_cases h : slT t = i
  · subst h; rw [if_pos rfl]; simp [List.getD_eq_getElem?_getD, hr, hs]
  · rw [if_neg h]; simp [List.getD_eq_getElem?_getD, h]
theorem fold_get : ∀ (l : List Tx) {r : List Int}, OkR r → ∀ i, i < 256 → (l.foldl upS r).getD i 0 = max (r.getD i 0) (sv l i)
  | [], r, h, i, hi => by have := (h.2 i hi).1; simp [sv] at this ⊢; omega
  | t :: l, r, h, i, hi => by
    have e : sv (t :: l) i = if slT t = i then max (rkT t : Int) (sv l i) else sv l i := rfl
    rw [List.foldl_cons, fold_get l (okR_up h t) i hi, upS_get h.1 t i hi, e]
    split <;> omega
/-- The slots of some texts. -/
def skS (l : List Tx) : List Int := skF l l.length
theorem skS_ok (l : List Tx) : OkR (skS l) := okR_skF l _
theorem skS_get (l : List Tx) (i : Nat) (hi : i < 256) : (skS l).getD i 0 = sv l i := by
  unfold skS skF
  rw [List.take_length, fold_get l okR_zeros i hi]
  have h1 := (okR_zeros.2 i hi).1
  have h2 := sv_nn l i
  have h3 : (rzeros.getD i 0 : Int) = 0 := by unfold rzeros; rw [List.getD_eq_getElem?_getD, List.getElem?_replicate]; simp [hi]
  rw [h3]; omega
theorem getD_ext {a b : List Int} (ha : a.length = 256) (hb : b.length = 256) (h : ∀ i, i < 256 → a.getD i 0 = b.getD i 0) : a = b := by
  apply List.ext_getElem (by omega)
  intro i h1 h2
  have := h i (by omega)
  simpa [List.getD_eq_getElem?_getD, h1, h2] using this
theorem skS_same {a b : List Tx} (h : ∀ t, t ∈ a ↔ t ∈ b) : skS a = skS b :=
  getD_ext (skS_ok a).1 (skS_ok b).1 fun i hi => by rw [skS_get a i hi, skS_get b i hi, sv_same h i]
theorem skS_back (t : Tx) (l : List Tx) (ht : t ∈ l) : skS (t :: l.reverse) = skS l := skS_same fun u => by
  simp only [List.mem_cons, List.mem_reverse]
  exact ⟨fun h => h.elim (fun e => e ▸ ht) id, Or.inr⟩
theorem skS_sub {a b : List Tx} (h : ∀ t ∈ a, t ∈ b) (i : Nat) (hi : i < 256) : (skS a).getD i 0 ≤ (skS b).getD i 0 := by
  rw [skS_get a i hi, skS_get b i hi]; exact sv_sub h i
theorem ofS_ok {l : List Tx} (h1 : l.length ≤ 4096) (h2 : txsOK l = true) : ofS l = (skS l, 0) := by
  unfold ofS skS; rw [if_neg (by omega), if_pos h2]
theorem ofS_good {l : List Tx} (h : (ofS l).2 = 0) : l.length ≤ 4096 ∧ txsOK l = true := by
  unfold ofS at h
  split at h
  · cases h
  · split at h
    · rename_i h1 h2; exact ⟨by omega, h2⟩
    · cases h
theorem skS_join (a b : List Tx) : mxZ (skS a) (skS b) = skS (a ++ b) := getD_ext (mxK_len _ _ _) (skS_ok _).1 fun i hi => by
  unfold mxZ
  rw [mxK_get _ _ _ i hi, if_pos hi, skS_get a i hi, skS_get b i hi, skS_get _ i hi, sv_app]
theorem skS_SkOK (l : List Tx) : SkOK (skS l) := ⟨(skS_ok l).1, fun i hi => (skS_ok l).2 i hi⟩
theorem txsOK_mem {l : List Tx} : txsOK l = true ↔ ∀ t ∈ l, t.length ≤ 65536 := by simp [txsOK]
end Go.Proofs.YtboocdiilbcdcaaDoor
