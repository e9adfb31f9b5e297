import Derived.Test.YtjndogajdlophaaDcA
namespace Go.Proofs.Ytjndogajdlophaa
open Go
set_option linter.unusedVariables false

/-! States that are made from the ends on, in plain words. -/
section
variable {P G : List Tx} {c : UInt8}
def headIs (c : UInt8) (G : List Tx) : Prop := ∀ t ∈ G, ∃ r, t = c :: r
def headLt (c : UInt8) (P : List Tx) : Prop := ∀ t ∈ P, t = [] ∨ ∃ d r, t = d :: r ∧ d.toNat < c.toNat
theorem subT_append (n : Nat) (A B : List Tx) : subT n (A ++ B) = subT n A ++ subT n B := by simp [subT]
theorem subT_headIs (h : headIs c G) : subT c.toNat G = G.map List.tail := by
  induction G with
  | nil => rfl
  | cons t G ih =>
    obtain ⟨r, rfl⟩ := h t (by simp)
    have := ih (fun x hx => h x (by simp [hx]))
    simp only [subT] at this
    simp [subT, tailIf, this]
theorem subT_headNe (h : headIs c G) {n : Nat} (hn : n ≠ c.toNat) : subT n G = [] := by
  induction G with
  | nil => rfl
  | cons t G ih =>
    obtain ⟨r, rfl⟩ := h t (by simp)
    have := ih (fun x hx => h x (by simp [hx]))
    simp only [subT] at this
    have e : ¬ c.toNat = n := fun e => hn e.symm
    simp [subT, tailIf, this, e]
theorem subT_headLt (h : headLt c P) {n : Nat} (hn : c.toNat ≤ n) : subT n P = [] := by
  induction P with
  | nil => rfl
  | cons t P ih =>
    have := ih (fun x hx => h x (by simp [hx]))
    simp only [subT] at this
    rcases h t (by simp) with rfl | ⟨d, r, rfl, hd⟩
    · simp only [subT, List.filterMap_cons, tailIf]; exact this
    · have e : ¬ d.toNat = n := by omega
      simp [subT, tailIf, this, e]
theorem finT_headIs (h : headIs c G) : finT G = false := by
  cases hh : finT G with
  | false => rfl
  | true => obtain ⟨r, hr⟩ := h [] (finT_mem.1 hh); cases hr
theorem finT_add (h : headIs c G) : finT (P ++ G) = finT P := by
  have : finT (P ++ G) = (finT P || finT G) := by simp [finT]
  rw [this, finT_headIs h, Bool.or_false]
theorem labelsT_add (hG : headIs c G) (hne : G ≠ []) (hP : headLt c P) : labelsT (P ++ G) = labelsT P ++ [c.toNat] := by
  refine nat_ext (labelsT_lt _) ?_ fun n => ?_
  · rw [List.pairwise_append]
    refine ⟨labelsT_lt P, by simp, ?_⟩
    intro a ha b hb
    have e : b = c.toNat := by simpa using hb
    subst e
    obtain ⟨_, h2⟩ := labelsT_mem.1 ha
    rcases Nat.lt_or_ge a c.toNat with h | h
    · exact h
    · exact absurd (subT_headLt hP h) h2
  · rw [List.mem_append, labelsT_mem, labelsT_mem, subT_append, List.mem_singleton]
    by_cases e : n = c.toNat
    · subst e
      rw [subT_headIs hG, subT_headLt hP (Nat.le_refl _)]
      have := UInt8.toNat_lt c
      simp [hne]
      omega
    · rw [subT_headNe hG e, List.append_nil]
      simp [e]
theorem aheadT_add (hG : headIs c G) {n : Nat} (hn : n ≤ c.toNat) : aheadT n (P ++ G) = aheadT n P := by
  rw [aheadT, List.countP_append]
  have : G.countP (isAhead n) = 0 := by
    rw [List.countP_eq_zero]
    intro t ht
    obtain ⟨r, rfl⟩ := hG t ht
    simp [isAhead]
    omega
  rw [this]; rfl
theorem aheadT_all (hP : headLt c P) : aheadT c.toNat P = P.length := by
  rw [aheadT, List.countP_eq_length]
  intro t ht
  rcases hP t ht with rfl | ⟨d, r, rfl, hd⟩
  · rfl
  · simp [isAhead, hd]
theorem stOf_add (O : List (List Tx)) (hG : headIs c G) (hne : G ≠ []) (hP : headLt c P) :
    stOf O (P ++ G) = (finT P, (stOf O P).2 ++ [((c.toNat : Int), ((O.idxOf (G.map List.tail) : Nat) : Int), ((P.length : Nat) : Int))]) := by
  rw [stOf, finT_add hG, labelsT_add hG hne hP, List.map_append, List.map_singleton]
  congr 2
  · rw [stOf]
    refine List.map_congr_left fun n hn => ?_
    have hlt : n < c.toNat := by
      rcases Nat.lt_or_ge n c.toNat with h | h
      · exact h
      · exact absurd (subT_headLt hP h) (labelsT_mem.1 hn).2
    rw [subT_append, subT_headNe hG (by omega), List.append_nil, aheadT_add hG (by omega)]
  · rw [subT_append, subT_headLt hP (Nat.le_refl _), List.nil_append, subT_headIs hG, aheadT_add hG (Nat.le_refl _), aheadT_all hP]
end

/-- The sets that were made into states: each once, each behind those that it leads to. -/
structure OkO (O : List (List Tx)) : Prop where
  nodup : O.Nodup
  rise : ∀ M ∈ O, RiseT M
  closed : ∀ M ∈ O, ∀ n ∈ labelsT M, subT n M ∈ O
def Kids (O : List (List Tx)) (L : List Tx) : Prop := ∀ n ∈ labelsT L, subT n L ∈ O
theorem idxOf_pre {O O' : List (List Tx)} (h : O <+: O') {x : List Tx} (hx : x ∈ O) : O'.idxOf x = O.idxOf x := by
  obtain ⟨r, rfl⟩ := h
  rw [List.idxOf_append, if_pos hx]
theorem mem_pre {O O' : List (List Tx)} (h : O <+: O') {x : List Tx} (hx : x ∈ O) : x ∈ O' := h.subset hx
theorem stOf_pre {O O' : List (List Tx)} (h : O <+: O') {L : List Tx} (hk : Kids O L) : stOf O' L = stOf O L := by
  unfold stOf
  congr 1
  refine List.map_congr_left fun n hn => ?_
  rw [idxOf_pre h (hk n hn)]
theorem Kids.pre {O O' : List (List Tx)} (h : O <+: O') {L : List Tx} (hk : Kids O L) : Kids O' L := fun n hn => mem_pre h (hk n hn)
theorem Kids.add {O : List (List Tx)} {P G : List Tx} {c : UInt8} (hk : Kids O P) (hG : headIs c G) (hne : G ≠ []) (hP : headLt c P) (hm : G.map List.tail ∈ O) : Kids O (P ++ G) := by
  intro n hn
  rw [labelsT_add hG hne hP, List.mem_append, List.mem_singleton] at hn
  rcases hn with hn | rfl
  · have hlt : n ≠ c.toNat := by
      intro e
      exact absurd (subT_headLt hP (by omega)) (labelsT_mem.1 hn).2
    rw [subT_append, subT_headNe hG hlt, List.append_nil]
    exact hk n hn
  · rw [subT_append, subT_headLt hP (Nat.le_refl _), List.nil_append, subT_headIs hG]
    exact hm
theorem idxOf_inj {O : List (List Tx)} {x y : List Tx} (hx : x ∈ O) (hy : y ∈ O) (h : O.idxOf x = O.idxOf y) : x = y := by
  have h1 := idxOf_at hx
  have h2 := idxOf_at hy
  rw [h] at h1
  exact Option.some.inj (h1.symm.trans h2)
theorem map_pair_inj {O : List (List Tx)} (F G : Nat → List Tx) : ∀ {A B : List Nat} (f g : Nat → Int), (∀ n ∈ A, F n ∈ O) → (∀ n ∈ B, G n ∈ O) →
    (A.map fun (n : Nat) => ((n : Int), ((O.idxOf (F n) : Nat) : Int), f n)) = (B.map fun (n : Nat) => ((n : Int), ((O.idxOf (G n) : Nat) : Int), g n)) → (A.map fun n => (n, F n)) = B.map fun n => (n, G n)
  | [], [], _, _, _, _, _ => rfl
  | [], b :: B, _, _, _, _, h => by simp at h
  | a :: A, [], _, _, _, _, h => by simp at h
  | a :: A, b :: B, f, g, hA, hB, h => by
    simp only [List.map_cons, List.cons.injEq, Prod.mk.injEq] at h
    obtain ⟨⟨h1, h2, h3⟩, h4⟩ := h
    have e : a = b := by omega
    have e2 := idxOf_inj (hA a (by simp)) (hB b (by simp)) (by omega)
    rw [List.map_cons, List.map_cons, map_pair_inj F G f g (fun n hn => hA n (by simp [hn])) (fun n hn => hB n (by simp [hn])) h4, e2, e]
theorem stOf_inj {O : List (List Tx)} {L M : List Tx} (hL : RiseT L) (hM : RiseT M) (kL : Kids O L) (kM : Kids O M) (h : stOf O L = stOf O M) : L = M := by
  have h1 : finT L = finT M := congrArg Prod.fst h
  have h2 := map_pair_inj (fun n => subT n L) (fun n => subT n M) _ _ kL kM (congrArg Prod.snd h)
  rw [← joinT_self hL, ← joinT_self hM, h1, h2]
theorem OkO.snoc {O : List (List Tx)} {L : List Tx} (h : OkO O) (hL : RiseT L) (hk : Kids O L) (hn : L ∉ O) : OkO (O ++ [L]) := by
  refine ⟨?_, ?_, ?_⟩
  · rw [List.nodup_append]
    refine ⟨h.nodup, by simp, ?_⟩
    intro a ha b hb e
    have e2 : b = L := by simpa using hb
    subst e
    rw [e2] at ha
    exact hn ha
  · intro M hM
    rcases List.mem_append.1 hM with hM | hM
    · exact h.rise M hM
    · have e : M = L := by simpa using hM
      rw [e]; exact hL
  · intro M hM n hn'
    rcases List.mem_append.1 hM with hM | hM
    · exact List.mem_append_left _ (h.closed M hM n hn')
    · have e : M = L := by simpa using hM
      subst e
      exact List.mem_append_left _ (hk n hn')
def stM (O : List (List Tx)) : List St := O.map (stOf O)
theorem stM_len (O : List (List Tx)) : (stM O).length = O.length := by simp [stM]
theorem stM_snoc {O : List (List Tx)} {L : List Tx} (h : OkO O) (hk : Kids O L) : stM (O ++ [L]) = stM O ++ [stOf O L] := by
  have hp : O <+: O ++ [L] := List.prefix_append _ _
  unfold stM
  rw [List.map_append, List.map_singleton, stOf_pre hp hk]
  congr 1
  exact List.map_congr_left fun M hM => stOf_pre hp (fun n hn => h.closed M hM n hn)
theorem stM_at {O : List (List Tx)} {j : Nat} {M : List Tx} (h : O[j]? = some M) : (stM O).getD j st0 = stOf O M := by
  rw [stM, List.getD_eq_getElem?_getD, List.getElem?_map, h]; rfl
/-- How many states a set may make. -/
def szT (L : List Tx) : Nat := (L.map fun t => t.length + 1).sum
theorem szT_append (A B : List Tx) : szT (A ++ B) = szT A + szT B := by simp [szT]
theorem szT_tail {c : UInt8} {G : List Tx} (h : headIs c G) : szT (G.map List.tail) + G.length = szT G := by
  induction G with
  | nil => rfl
  | cons t G ih =>
    obtain ⟨r, rfl⟩ := h t (by simp)
    have := ih (fun x hx => h x (by simp [hx]))
    simp only [szT, List.map_cons, List.sum_cons, List.length_cons, List.tail_cons] at this ⊢
    omega
end Go.Proofs.Ytjndogajdlophaa
