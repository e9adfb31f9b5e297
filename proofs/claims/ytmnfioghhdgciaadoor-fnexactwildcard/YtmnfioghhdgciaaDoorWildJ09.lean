import Derived.Test.YtmnfioghhdgciaaDoorWildJ02
namespace Go.Proofs.YtmnfioghhdgciaaDoor
open Go
set_option linter.unusedVariables false

/-! What numbers of traits mean. -/
abbrev Mng := Bool × List (Nat × Nat)
def mean (G : List Mng) (a : Int) : Mng := if a = -1 then (false, []) else if a = -2 then (true, []) else G.getD a.toNat (false, [])
def NumOK (G : List Mng) (a : Int) : Prop := a = -1 ∨ a = -2 ∨ (0 ≤ a ∧ a < G.length)
structure TrOK (Tr : List (Int × Nat × Nat)) (G : List Mng) : Prop where
  len : Tr.length = G.length
  told : ∀ (i : Nat) (t : Int × Nat × Nat), Tr[i]? = some t → NumOK G t.1 ∧ G[i]? = some ((mean G t.1).1, (mean G t.1).2 ++ [t.2])
  nodup : G.Nodup
theorem TrOK.nil : TrOK [] [] := ⟨rfl, fun i t h => by simp at h, by simp⟩
theorem TrOK.some_of {Tr : List (Int × Nat × Nat)} {G : List Mng} (h : TrOK Tr G) {i : Nat} (hi : i < G.length) : ∃ μ, G[i]? = some μ ∧ μ.2 ≠ [] := by
  have ht := List.getElem?_eq_getElem (show i < Tr.length by rw [h.len]; exact hi)
  obtain ⟨_, h2⟩ := h.told i _ ht
  exact ⟨_, h2, by simp⟩
theorem TrOK.mean_at {Tr : List (Int × Nat × Nat)} {G : List Mng} (h : TrOK Tr G) {i : Nat} (hi : i < G.length) : G[i]? = some (mean G (i : Int)) := by
  unfold mean
  rw [if_neg (by omega), if_neg (by omega), show ((i : Int)).toNat = i by omega, List.getD_eq_getElem?_getD, List.getElem?_eq_getElem hi]
  rfl
theorem TrOK.inj {Tr : List (Int × Nat × Nat)} {G : List Mng} (h : TrOK Tr G) {a b : Int} (ha : NumOK G a) (hb : NumOK G b) (e : mean G a = mean G b) : a = b := by
  have key : ∀ i : Nat, i < G.length → (mean G (i : Int)).2 ≠ [] := by
    intro i hi
    obtain ⟨μ, h1, h2⟩ := h.some_of hi
    rw [h.mean_at hi] at h1
    rw [Option.some.inj h1]; exact h2
  have m1 : mean G (-1) = (false, []) := rfl
  have m2 : mean G (-2) = (true, []) := rfl
  rcases ha with rfl | rfl | ⟨a0, a1⟩ <;> rcases hb with rfl | rfl | ⟨b0, b1⟩
  · rfl
  · rw [m1, m2] at e; simp at e
  · obtain ⟨j, rfl⟩ : ∃ j : Nat, b = (j : Int) := ⟨b.toNat, by omega⟩
    exact absurd (by rw [← e, m1]) (key j (by omega))
  · rw [m1, m2] at e; simp at e
  · rfl
  · obtain ⟨j, rfl⟩ : ∃ j : Nat, b = (j : Int) := ⟨b.toNat, by omega⟩
    exact absurd (by rw [← e, m2]) (key j (by omega))
  · obtain ⟨i, rfl⟩ : ∃ j : Nat, a = (j : Int) := ⟨a.toNat, by omega⟩
    exact absurd (by rw [e, m1]) (key i (by omega))
  · obtain ⟨i, rfl⟩ : ∃ j : Nat, a = (j : Int) := ⟨a.toNat, by omega⟩
    exact absurd (by rw [e, m2]) (key i (by omega))
  · obtain ⟨i, rfl⟩ : ∃ j : Nat, a = (j : Int) := ⟨a.toNat, by omega⟩
    obtain ⟨j, rfl⟩ : ∃ j : Nat, b = (j : Int) := ⟨b.toNat, by omega⟩
    have h1 := h.mean_at (i := i) (by omega)
    have h2 := h.mean_at (i := j) (by omega)
    rw [e, ← h2] at h1
    obtain ⟨p1, p2⟩ := List.getElem?_eq_some_iff.1 (h.mean_at (i := i) (by omega))
    obtain ⟨p3, p4⟩ := List.getElem?_eq_some_iff.1 (h.mean_at (i := j) (by omega))
    have := (List.getElem_inj (h₀ := p1) (h₁ := p3) h.nodup).1 (by rw [p2, p4, e])
    omega
theorem mean_app {G H : List Mng} {a : Int} (h : NumOK G a) : mean (G ++ H) a = mean G a := by
  unfold mean
  rcases h with rfl | rfl | ⟨h1, h2⟩
  · rfl
  · rfl
  · rw [if_neg (by omega), if_neg (by omega), if_neg (by omega), if_neg (by omega), List.getD_eq_getElem?_getD, List.getD_eq_getElem?_getD, List.getElem?_append_left (by omega)]
theorem NumOK.app {G H : List Mng} {a : Int} (h : NumOK G a) : NumOK (G ++ H) a := by
  rcases h with h | h | ⟨h1, h2⟩
  · exact Or.inl h
  · exact Or.inr (Or.inl h)
  · exact Or.inr (Or.inr ⟨h1, by simp; omega⟩)
theorem TrOK.found {Tr : List (Int × Nat × Nat)} {G : List Mng} (h : TrOK Tr G) {t : Int × Nat × Nat} {i : Nat} (ht : Tr[i]? = some t) : NumOK G (i : Int) ∧ mean G (i : Int) = ((mean G t.1).1, (mean G t.1).2 ++ [t.2]) := by
  have hi : i < G.length := by rw [← h.len]; exact (List.getElem?_eq_some_iff.1 ht).1
  refine ⟨Or.inr (Or.inr ⟨by omega, by omega⟩), ?_⟩
  have h1 := h.mean_at hi
  rw [(h.told i t ht).2] at h1
  exact (Option.some.inj h1).symm
theorem TrOK.push {Tr : List (Int × Nat × Nat)} {G : List Mng} (h : TrOK Tr G) {t : Int × Nat × Nat} (ha : NumOK G t.1) (hn : t ∉ Tr) :
    TrOK (Tr ++ [t]) (G ++ [((mean G t.1).1, (mean G t.1).2 ++ [t.2])]) := by
  refine ⟨by simp [h.len], ?_, ?_⟩
  · intro i u hu
    by_cases hi : i < Tr.length
    · rw [List.getElem?_append_left hi] at hu
      obtain ⟨h1, h2⟩ := h.told i u hu
      refine ⟨h1.app, ?_⟩
      rw [List.getElem?_append_left (by rw [← h.len]; exact hi), mean_app h1, h2]
    · have hi' : i = Tr.length := by
        have := (List.getElem?_eq_some_iff.1 hu).1
        simp at this
        omega
      subst hi'
      have e : u = t := by simpa using hu.symm
      subst e
      refine ⟨ha.app, ?_⟩
      rw [mean_app ha, h.len]
      simp
  · rw [List.nodup_append]
    refine ⟨h.nodup, by simp, ?_⟩
    intro μ hμ ν hν e
    have e2 : ν = ((mean G t.1).1, (mean G t.1).2 ++ [t.2]) := by simpa using hν
    rw [e2] at e
    obtain ⟨i, hi⟩ := List.mem_iff_getElem?.1 hμ
    have hil : i < Tr.length := by rw [h.len]; exact (List.getElem?_eq_some_iff.1 hi).1
    have hu := List.getElem?_eq_getElem hil
    obtain ⟨h1, h2⟩ := h.told i _ hu
    rw [h2, Option.some.injEq] at hi
    rw [← hi] at e
    obtain ⟨e3, e4⟩ := Prod.mk.inj e
    have e5 := List.append_inj' e4 rfl
    have e6 : Tr[i].1 = t.1 := h.inj h1 ha (Prod.ext e3 e5.1)
    have e7 : Tr[i].2 = t.2 := by simpa using e5.2
    exact hn (by rw [← Prod.ext e6 e7]; exact List.getElem_mem hil)
theorem mean_new {Tr : List (Int × Nat × Nat)} {G : List Mng} (h : TrOK Tr G) (μ : Mng) : NumOK (G ++ [μ]) (Tr.length : Int) ∧ mean (G ++ [μ]) (Tr.length : Int) = μ := by
  refine ⟨Or.inr (Or.inr ⟨by omega, by simp [h.len]; omega⟩), ?_⟩
  unfold mean
  rw [if_neg (by omega), if_neg (by omega), show ((Tr.length : Int)).toNat = Tr.length by omega, h.len, List.getD_eq_getElem?_getD]
  simp
/-! Groups of equal kind, in the order in which they are met. -/
section
variable {X : Type} [DecidableEq X]
def kindsOf (M : Nat → X) (ms : List Nat) : List X := meets [] (ms.map M)
def groups (M : Nat → X) (ms : List Nat) : List (List Nat) := (kindsOf M ms).map fun μ => ms.filter fun q => decide (M q = μ)
theorem kindsOf_snoc (M : Nat → X) (ms : List Nat) (q : Nat) : kindsOf M (ms ++ [q]) = meet (kindsOf M ms) (M q) := by
  unfold kindsOf
  rw [List.map_append, List.map_cons, List.map_nil, meets_snoc]
theorem kindsOf_mem {M : Nat → X} {ms : List Nat} {μ : X} : μ ∈ kindsOf M ms ↔ ∃ q ∈ ms, M q = μ := by
  unfold kindsOf
  rw [meets_mem]
  simp
theorem kindsOf_nodup (M : Nat → X) (ms : List Nat) : (kindsOf M ms).Nodup := meets_nodup (by simp)
theorem groups_len (M : Nat → X) (ms : List Nat) : (groups M ms).length = (kindsOf M ms).length := by simp [groups]
theorem groups_old {M : Nat → X} {ms : List Nat} {q : Nat} {j : Nat} (h : (kindsOf M ms)[j]? = some (M q)) : groups M (ms ++ [q]) = (groups M ms).set j (((groups M ms).getD j []) ++ [q]) := by
  have hm : M q ∈ kindsOf M ms := List.mem_of_getElem? h
  have hk : kindsOf M (ms ++ [q]) = kindsOf M ms := by rw [kindsOf_snoc]; unfold meet; rw [if_pos hm]
  have hjl := (List.getElem?_eq_some_iff.1 h).1
  refine List.ext_getElem? fun i => ?_
  unfold groups
  rw [hk, List.getElem?_set, List.getElem?_map, List.length_map]
  cases hx : (kindsOf M ms)[i]? with
  | none =>
    have : ¬ j = i := by rintro rfl; rw [h] at hx; cases hx
    simp [this, hx]
  | some μ =>
    by_cases e : j = i
    · subst e
      rw [h] at hx
      cases hx
      have hj2 := (List.getElem?_eq_some_iff.1 h).2
      simp [hjl, List.filter_append, hj2]
    · have : M q ≠ μ := by
        intro e2
        obtain ⟨p1, p2⟩ := List.getElem?_eq_some_iff.1 h
        obtain ⟨p3, p4⟩ := List.getElem?_eq_some_iff.1 hx
        exact e ((List.getElem_inj (h₀ := p1) (h₁ := p3) (kindsOf_nodup M ms)).1 (by rw [p2, p4, e2]))
      simp [e, hx, List.filter_append, this]
theorem groups_new {M : Nat → X} {ms : List Nat} {q : Nat} (h : M q ∉ kindsOf M ms) : groups M (ms ++ [q]) = groups M ms ++ [[q]] := by
  have hk : kindsOf M (ms ++ [q]) = kindsOf M ms ++ [M q] := by rw [kindsOf_snoc]; unfold meet; rw [if_neg h]
  unfold groups
  rw [hk, List.map_append]
  congr 1
  · refine List.map_congr_left fun μ hμ => ?_
    have : M q ≠ μ := fun e => h (e ▸ hμ)
    simp [List.filter_append, this]
  · have : ms.filter (fun p => decide (M p = M q)) = [] := by
      rw [List.filter_eq_nil_iff]
      intro p hp
      have : M p ≠ M q := fun e => h (kindsOf_mem.2 ⟨p, hp, e⟩)
      simpa using this
    simp [List.filter_append, this]
theorem groups_one (M : Nat → X) (q : Nat) : groups M [q] = [[q]] := by
  have := groups_new (M := M) (ms := []) (q := q) (by simp [kindsOf, meets])
  simpa [groups, kindsOf, meets] using this
theorem groups_mem {M : Nat → X} {ms : List Nat} {j : Nat} {g : List Nat} (h : (groups M ms)[j]? = some g) : g ≠ [] ∧ (∀ q, q ∈ g ↔ q ∈ ms ∧ ix (kindsOf M ms) (M q) = j) ∧ (ms.Nodup → g.Nodup) := by
  unfold groups at h
  rw [List.getElem?_map] at h
  cases hx : (kindsOf M ms)[j]? with
  | none => rw [hx] at h; cases h
  | some μ =>
    rw [hx] at h
    simp only [Option.map_some, Option.some.injEq] at h
    subst h
    refine ⟨?_, ?_, fun hn => hn.filter _⟩
    · obtain ⟨q, hq, he⟩ := kindsOf_mem.1 (List.mem_of_getElem? hx)
      intro hc
      have : q ∈ ms.filter (fun q => decide (M q = μ)) := List.mem_filter.2 ⟨hq, by simpa using he⟩
      rw [hc] at this
      simp at this
    · intro q
      rw [List.mem_filter]
      refine and_congr_right fun hq => ?_
      have hm : M q ∈ kindsOf M ms := kindsOf_mem.2 ⟨q, hq, rfl⟩
      simp only [decide_eq_true_iff]
      constructor
      · rintro rfl
        exact ix_of (kindsOf_nodup M ms) hx
      · intro e
        have := ix_at hm
        rw [e, hx] at this
        exact (Option.some.inj this).symm
end

/-! Parting states by where they lead: the program's way. -/
def kindOf (A : Aut) (S : Nat) (κ : Nat → Nat) (q : Nat) : Mng := (A.fin q, runs ((List.range S).map fun a => κ (A.nx q a)))
theorem kindOf_eq {A : Aut} {S : Nat} {κ : Nat → Nat} {q r : Nat} : kindOf A S κ q = kindOf A S κ r ↔ A.fin q = A.fin r ∧ ∀ a, a < S → κ (A.nx q a) = κ (A.nx r a) := by
  unfold kindOf
  rw [Prod.mk.injEq]
  refine and_congr_right fun _ => ⟨fun h a ha => ?_, fun h => by rw [List.map_congr_left fun a ha => h a (List.mem_range.1 ha)]⟩
  have h1 := runs_inj (by simp) h
  have h2 := congrArg (fun l => l[a]?) h1
  simpa [ha] using h2
structure PartOK (A : Aut) (S n : Nat) (κ : Nat → Nat) (parts : List (List Nat)) : Prop where
  coarse : Coarse A S n κ
  lt : ∀ q, q < n → κ q < parts.length
  told : ∀ (c : Nat) (ms : List Nat), parts[c]? = some ms → ms ≠ [] ∧ ms.Nodup ∧ ∀ q, q ∈ ms ↔ q < n ∧ κ q = c
theorem PartOK.onto {A : Aut} {S n : Nat} {κ : Nat → Nat} {parts : List (List Nat)} (h : PartOK A S n κ parts) : ∀ y, y < parts.length → ∃ q, q < n ∧ κ q = y := by
  intro y hy
  obtain ⟨h1, _, h2⟩ := h.told y _ (List.getElem?_eq_getElem hy)
  obtain ⟨q, hq⟩ := List.exists_mem_of_ne_nil _ h1
  exact ⟨q, (h2 q).1 hq⟩
/-- Behind the j-th new part. -/
def splitK (M : Nat → Mng) (κ : Nat → Nat) (ms : List Nat) (c L j q : Nat) : Nat :=
  if κ q = c ∧ 0 < ix (kindsOf M ms) (M q) ∧ ix (kindsOf M ms) (M q) ≤ j then L + ix (kindsOf M ms) (M q) - 1 else κ q
def splitP (parts : List (List Nat)) (gs : List (List Nat)) (c j : Nat) : List (List Nat) := parts.set c (gs.getD 0 []) ++ (gs.drop 1).take j
theorem splitK_zero (M : Nat → Mng) (κ : Nat → Nat) (ms : List Nat) (c L q : Nat) : splitK M κ ms c L 0 q = κ q := by
  unfold splitK
  rw [if_neg (by omega)]
theorem PartOK.split {A : Aut} {S n : Nat} {κ : Nat → Nat} {parts : List (List Nat)} (hs : Shut A S n) (h : PartOK A S n κ parts) {c : Nat} {ms : List Nat} (hc : parts[c]? = some ms) :
    PartOK A S n (splitK (kindOf A S κ) κ ms c parts.length (groups (kindOf A S κ) ms).length) (splitP parts (groups (kindOf A S κ) ms) c (groups (kindOf A S κ) ms).length) := by
  obtain ⟨m1, m2, m3⟩ := h.told c ms hc
  have hcl := (List.getElem?_eq_some_iff.1 hc).1
  have hg := groups_len (kindOf A S κ) ms
  have hpos : 0 < (groups (kindOf A S κ) ms).length := by
    obtain ⟨q, hq⟩ := List.exists_mem_of_ne_nil _ m1
    have : kindOf A S κ q ∈ kindsOf (kindOf A S κ) ms := kindsOf_mem.2 ⟨q, hq, rfl⟩
    rw [hg]
    exact List.length_pos_of_mem this
  have ixl : ∀ q, q ∈ ms → ix (kindsOf (kindOf A S κ) ms) (kindOf A S κ q) < (groups (kindOf A S κ) ms).length := fun q hq => by
    rw [hg]; exact ix_lt (kindsOf_mem.2 ⟨q, hq, rfl⟩)
  have hlen : (splitP parts (groups (kindOf A S κ) ms) c (groups (kindOf A S κ) ms).length).length = parts.length + (groups (kindOf A S κ) ms).length - 1 := by
    simp [splitP]; omega
  have val : ∀ q, q < n → κ q = c → splitK (kindOf A S κ) κ ms c parts.length (groups (kindOf A S κ) ms).length q = if 0 < ix (kindsOf (kindOf A S κ) ms) (kindOf A S κ q) then parts.length + ix (kindsOf (kindOf A S κ) ms) (kindOf A S κ q) - 1 else c := by
    intro q hq e
    have h1 := ixl q ((m3 q).2 ⟨hq, e⟩)
    unfold splitK
    by_cases h2 : 0 < ix (kindsOf (kindOf A S κ) ms) (kindOf A S κ q)
    · rw [if_pos ⟨e, h2, by omega⟩, if_pos h2]
    · rw [if_neg (fun hh => h2 hh.2.1), if_neg h2, e]
  have val' : ∀ q, κ q ≠ c → splitK (kindOf A S κ) κ ms c parts.length (groups (kindOf A S κ) ms).length q = κ q := by
    intro q e
    unfold splitK
    rw [if_neg (fun hh => e hh.1)]
  refine ⟨?_, ?_, ?_⟩
  · intro q r hq hr e
    have e1 := h.coarse q r hq hr e
    have e2 : kindOf A S κ q = kindOf A S κ r := kindOf_eq.2 (h.coarse.step hs hq hr e)
    unfold splitK
    rw [e1, e2]
  · intro q hq
    rw [hlen]
    by_cases e : κ q = c
    · rw [val q hq e]
      have := ixl q ((m3 q).2 ⟨hq, e⟩)
      split <;> omega
    · rw [val' q e]
      have := h.lt q hq
      omega
  · intro c' ms' h'
    unfold splitP at h'
    by_cases hl : c' < parts.length
    · rw [List.getElem?_append_left (by simpa using hl), List.getElem?_set] at h'
      by_cases e : c = c'
      · subst e
        rw [if_pos rfl, if_pos hcl, Option.some.injEq] at h'
        have h0 : (groups (kindOf A S κ) ms)[0]? = some ms' := by
          rw [← h', List.getElem?_eq_getElem hpos, List.getD_eq_getElem?_getD, List.getElem?_eq_getElem hpos]; rfl
        obtain ⟨g1, g2, g3⟩ := groups_mem h0
        refine ⟨g1, g3 m2, fun q => ?_⟩
        rw [g2 q, m3 q]
        constructor
        · rintro ⟨⟨h2, h3⟩, h4⟩
          refine ⟨h2, ?_⟩
          rw [val q h2 h3, h4, if_neg (by omega)]
        · rintro ⟨h2, h3⟩
          by_cases e : κ q = c
          · rw [val q h2 e] at h3
            refine ⟨⟨h2, e⟩, ?_⟩
            split at h3 <;> omega
          · rw [val' q e] at h3; exact absurd h3 e
      · rw [if_neg e] at h'
        obtain ⟨g1, g2, g3⟩ := h.told c' ms' h'
        refine ⟨g1, g2, fun q => ?_⟩
        rw [g3 q]
        refine and_congr_right fun hq => ?_
        by_cases e2 : κ q = c
        · rw [val q hq e2]
          constructor
          · intro e3; exact absurd (e2.symm.trans e3) e
          · intro e3; split at e3 <;> omega
        · rw [val' q e2]
    · rw [List.getElem?_append_right (by simp; omega), List.length_set, List.getElem?_take] at h'
      split at h'
      · rw [List.getElem?_drop] at h'
        obtain ⟨g1, g2, g3⟩ := groups_mem h'
        refine ⟨g1, g3 m2, fun q => ?_⟩
        rw [g2 q, m3 q]
        constructor
        · rintro ⟨⟨h2, h3⟩, h4⟩
          refine ⟨h2, ?_⟩
          rw [val q h2 h3, h4, if_pos (by omega)]
          omega
        · rintro ⟨h2, h3⟩
          by_cases e : κ q = c
          · rw [val q h2 e] at h3
            refine ⟨⟨h2, e⟩, ?_⟩
            split at h3 <;> omega
          · rw [val' q e] at h3
            have := h.lt q h2
            omega
      · cases h'
/-- No part that can be parted is left. -/
theorem PartOK.stable {A : Aut} {S n : Nat} {κ : Nat → Nat} {parts : List (List Nat)} (h : PartOK A S n κ parts) (hu : ∀ (c : Nat) (ms : List Nat), parts[c]? = some ms → (groups (kindOf A S κ) ms).length = 1) : Stable A S n κ := by
  intro q r hq hr e
  have hql := h.lt q hq
  have hc := List.getElem?_eq_getElem hql
  obtain ⟨m1, m2, m3⟩ := h.told _ _ hc
  have h1 := hu _ _ hc
  rw [groups_len] at h1
  have k1 : kindOf A S κ q ∈ kindsOf (kindOf A S κ) parts[κ q] := kindsOf_mem.2 ⟨q, (m3 q).2 ⟨hq, rfl⟩, rfl⟩
  have k2 : kindOf A S κ r ∈ kindsOf (kindOf A S κ) parts[κ q] := kindsOf_mem.2 ⟨r, (m3 r).2 ⟨hr, e.symm⟩, rfl⟩
  obtain ⟨μ, hμ⟩ := List.length_eq_one_iff.1 h1
  rw [hμ, List.mem_singleton] at k1 k2
  exact kindOf_eq.1 (k1.trans k2.symm)
theorem part_first (A : Aut) (S n : Nat) (h0 : 0 < n) : PartOK A S n (fun _ => 0) [List.range n] := by
  refine ⟨fun q r _ _ _ => rfl, fun q _ => by simp, fun c ms h => ?_⟩
  match c, h with
  | 0, h =>
    have e : ms = List.range n := by simpa using h.symm
    subst e
    refine ⟨by intro e; have := congrArg List.length e; simp at this; omega, List.nodup_range, fun q => by simp⟩
  | c + 1, h => simp at h
end Go.Proofs.YtmnfioghhdgciaaDoor
