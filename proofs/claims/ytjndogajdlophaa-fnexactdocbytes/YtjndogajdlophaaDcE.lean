import Derived.Test.YtjndogajdlophaaDcA
namespace Go.Proofs.Ytjndogajdlophaa
open Go
set_option linter.unusedVariables false

/-! Whether the states have the numbers with which they are met. -/
def arcGo (n : Nat) : Nat → Int → List Ar → Option Nat
  | met, last, [] => some met
  | met, last, a :: t => if last + 1 ≤ a.1 ∧ a.1 ≤ 255 ∧ 0 ≤ a.2.1 ∧ a.2.1 ≤ min (met : Int) ((n : Int) - 1) then arcGo n (if a.2.1 = (met : Int) then met + 1 else met) a.1 t else none
def metGo (n : Nat) : Nat → Nat → List St → Bool
  | i, met, [] => true
  | i, met, s :: t => if i = met then false else match arcGo n met (-1) s.2 with
    | none => false
    | some m => metGo n (i + 1) m t
def metOK (S : List St) : Bool := decide (1 ≤ S.length ∧ S.length ≤ 16384) && metGo S.length 0 1 S

theorem meet_range (m x : Nat) (h : x ≤ m) : meet (List.range m) x = List.range (if x = m then m + 1 else m) := by
  unfold meet
  by_cases hx : x = m
  · subst hx
    rw [if_neg (by simp), if_pos rfl, List.range_succ]
  · rw [if_pos (by simp; omega), if_neg hx]
theorem arcGo_some (n : Nat) : ∀ (l : List Ar) (met : Nat) (last : Int) (m : Nat), arcGo n met last l = some m →
    (l.Pairwise fun a b => a.1 < b.1) ∧ (∀ a ∈ l, last < a.1 ∧ a.1 ≤ 255 ∧ 0 ≤ a.2.1 ∧ a.2.1 < n) ∧ meets (List.range met) (l.map fun a => a.2.1.toNat) = List.range m
  | [], met, last, m, h => by
    simp only [arcGo, Option.some.injEq] at h
    subst h
    exact ⟨List.Pairwise.nil, by simp, rfl⟩
  | a :: t, met, last, m, h => by
    simp only [arcGo] at h
    split at h
    · rename_i hc
      obtain ⟨h1, h2, h3, h4⟩ := hc
      obtain ⟨g1, g2, g3⟩ := arcGo_some n t _ _ m h
      refine ⟨List.pairwise_cons.2 ⟨fun b hb => (g2 b hb).1, g1⟩, ?_, ?_⟩
      · intro b hb
        rcases List.mem_cons.1 hb with rfl | hb
        · exact ⟨by omega, h2, h3, by omega⟩
        · have := g2 b hb
          exact ⟨by omega, this.2⟩
      · show meets (meet (List.range met) a.2.1.toNat) (t.map fun a => a.2.1.toNat) = _
        rw [meet_range met a.2.1.toNat (by omega), ← g3]
        by_cases hm : a.2.1 = (met : Int)
        · rw [if_pos hm, if_pos (by omega)]
        · rw [if_neg hm, if_neg (by omega)]
    · cases h
theorem range_pre {m k : Nat} {r : List Nat} (h : List.range m ++ r = List.range k) : m ≤ k ∧ ∀ x ∈ r.head?, x = m := by
  have hl := congrArg List.length h
  simp at hl
  refine ⟨by omega, ?_⟩
  intro x hx
  cases r with
  | nil => simp at hx
  | cons y t =>
    simp at hx
    subst hx
    have := congrArg (fun l => l[m]?) h
    simp only [List.getElem?_append_right (show (List.range m).length ≤ m by simp), List.length_range, Nat.sub_self, List.getElem?_cons_zero] at this
    simp at hl
    have h2 : (List.range k)[m]? = some m := List.getElem?_range (by omega)
    rw [h2] at this
    exact Option.some.inj this
theorem arcGo_of (n : Nat) : ∀ (l : List Ar) (met : Nat) (last : Int) (k : Nat), (l.Pairwise fun a b => a.1 < b.1) → (∀ a ∈ l, last < a.1 ∧ a.1 ≤ 255 ∧ 0 ≤ a.2.1 ∧ a.2.1.toNat < n) → (∃ r, meets (List.range met) (l.map fun a => a.2.1.toNat) ++ r = List.range k) →
    ∃ m, arcGo n met last l = some m
  | [], met, last, k, _, _, _ => ⟨met, rfl⟩
  | a :: t, met, last, k, hp, hl, ⟨r, hr⟩ => by
    rw [List.pairwise_cons] at hp
    have ha := hl a (by simp)
    have hr' : meets (meet (List.range met) a.2.1.toNat) (t.map fun a => a.2.1.toNat) ++ r = List.range k := hr
    have hle : a.2.1.toNat ≤ met := by
      by_cases hx : a.2.1.toNat < met
      · omega
      · have e : meet (List.range met) a.2.1.toNat = List.range met ++ [a.2.1.toNat] := by
          unfold meet
          rw [if_neg (by simp; omega)]
        rw [e] at hr'
        obtain ⟨q, hq⟩ := meets_pre (t.map fun a => a.2.1.toNat) (List.range met ++ [a.2.1.toNat])
        rw [hq, List.append_assoc, List.append_assoc] at hr'
        have := (range_pre hr').2 a.2.1.toNat (by simp)
        omega
    have hc : last + 1 ≤ a.1 ∧ a.1 ≤ 255 ∧ 0 ≤ a.2.1 ∧ a.2.1 ≤ min (met : Int) ((n : Int) - 1) := ⟨by omega, ha.2.1, ha.2.2.1, by omega⟩
    rw [meet_range met a.2.1.toNat hle] at hr'
    have e2 : (if a.2.1.toNat = met then met + 1 else met) = (if a.2.1 = (met : Int) then met + 1 else met) := by
      by_cases hm : a.2.1 = (met : Int)
      · rw [if_pos hm, if_pos (by omega)]
      · rw [if_neg hm, if_neg (by omega)]
    rw [e2] at hr'
    obtain ⟨m, hm⟩ := arcGo_of n t _ a.1 k hp.2 (fun b hb => ⟨hp.1 b hb, (hl b (by simp [hb])).2⟩) ⟨r, hr'⟩
    exact ⟨m, by rw [arcGo, if_pos hc]; exact hm⟩
theorem drop_arcs {S : List St} {i : Nat} {s : St} {t : List St} (h : S.drop i = s :: t) : i < S.length ∧ arcsAt S i = s.2 ∧ S.drop (i + 1) = t := by
  have hi : i < S.length := by
    rcases Nat.lt_or_ge i S.length with h' | h'
    · exact h'
    · rw [List.drop_of_length_le h'] at h; cases h
  rw [List.drop_eq_getElem_cons hi] at h
  injection h with h1 h2
  exact ⟨hi, by rw [arcsAt, List.getD_eq_getElem?_getD, List.getElem?_eq_getElem hi, ← h1]; rfl, h2⟩
def ArcsOK (S : List St) (i : Nat) : Prop := ((arcsAt S i).Pairwise fun a b => a.1 < b.1) ∧ ∀ a ∈ arcsAt S i, 0 ≤ a.1 ∧ a.1 ≤ 255 ∧ 0 ≤ a.2.1 ∧ a.2.1.toNat < S.length
theorem arcGo_ge (n : Nat) {l : List Ar} {met : Nat} {last : Int} {m : Nat} (h : arcGo n met last l = some m) : met ≤ m := by
  obtain ⟨_, _, g3⟩ := arcGo_some n l met last m h
  obtain ⟨r, hr⟩ := meets_pre (l.map fun a => a.2.1.toNat) (List.range met)
  rw [g3] at hr
  have := congrArg List.length hr
  simp at this
  omega
theorem metGo_true (S : List St) : ∀ (t : List St) (i met : Nat), S.drop i = t → bfs (toAt S) i 0 [0] = List.range met → metGo S.length i met t = true → i + t.length = S.length → i ≤ met →
    (∀ j, i ≤ j → j < S.length → ArcsOK S j) ∧ ∃ m, bfs (toAt S) S.length 0 [0] = List.range m ∧ S.length ≤ m
  | [], i, met, hd, hb, hm, hl, hle => by
    simp at hl
    subst hl
    exact ⟨fun j h1 h2 => absurd h1 (by omega), met, hb, hle⟩
  | s :: t, i, met, hd, hb, hm, hl, hle => by
    obtain ⟨hi, ha, hd2⟩ := drop_arcs hd
    simp only [metGo] at hm
    split at hm
    · cases hm
    · rename_i hne
      cases hg : arcGo S.length met (-1) s.2 with
      | none => rw [hg] at hm; cases hm
      | some m =>
        rw [hg] at hm
        obtain ⟨g1, g2, g3⟩ := arcGo_some _ _ _ _ _ hg
        have hge := arcGo_ge _ hg
        have hx : (List.range met)[i]? = some i := List.getElem?_range (by omega)
        have hb2 : bfs (toAt S) (i + 1) 0 [0] = List.range m := by
          rw [bfs_step hb hx, toAt, ha, g3]
        simp only [List.length_cons] at hl
        obtain ⟨r1, m', r2, r3⟩ := metGo_true S t (i + 1) m hd2 hb2 hm (by omega) (by omega)
        refine ⟨fun j h1 h2 => ?_, m', r2, r3⟩
        by_cases hj : j = i
        · subst hj
          refine ⟨ha ▸ g1, fun a haa => ?_⟩
          rw [ha] at haa
          have := g2 a haa
          omega
        · exact r1 j (by omega) h2
theorem metGo_of (S : List St) (hok : ∀ j, j < S.length → ArcsOK S j) (f : Nat) (hf : bfs (toAt S) f 0 [0] = List.range S.length) (hlen : S.length ≤ f) : ∀ (t : List St) (i met : Nat), S.drop i = t → bfs (toAt S) i 0 [0] = List.range met → i + t.length = S.length → metGo S.length i met t = true
  | [], i, met, hd, hb, hl => rfl
  | s :: t, i, met, hd, hb, hl => by
    obtain ⟨hi, ha, hd2⟩ := drop_arcs hd
    simp only [List.length_cons] at hl
    have hpre : ∀ i, i ≤ f → ∃ r, bfs (toAt S) i 0 [0] ++ r = List.range S.length := by
      intro i hif
      obtain ⟨d, rfl⟩ : ∃ d, f = i + d := ⟨f - i, by omega⟩
      clear hlen
      have key : ∀ d, ∃ r, bfs (toAt S) (i + d) 0 [0] = bfs (toAt S) i 0 [0] ++ r := by
        intro d
        induction d with
        | zero => exact ⟨[], by simp⟩
        | succ d ih =>
          obtain ⟨r, hr⟩ := ih
          rw [show i + (d + 1) = (i + d) + 1 from by omega, bfs_snoc]
          split
          · exact ⟨r, hr⟩
          · rename_i x hx
            obtain ⟨r2, hr2⟩ := meets_pre (toAt S x) (bfs (toAt S) (i + d) 0 [0])
            exact ⟨r ++ r2, by rw [hr2, hr, List.append_assoc]⟩
      obtain ⟨r, hr⟩ := key d
      exact ⟨r, by rw [← hr, hf]⟩
    have hne : ¬ i = met := by
      intro he
      subst he
      have hm := bfs_more (toAt S) i 0 [0] (by rw [hb]; simp) (f - i)
      rw [show i + (f - i) = f from by omega, hf, hb] at hm
      have := congrArg List.length hm
      simp at this
      omega
    have hlt : i < met := by
      rcases Nat.lt_or_ge i met with h | h
      · exact h
      · exfalso
        have hm := bfs_more (toAt S) i 0 [0] (by rw [hb]; simp; omega) (f - i)
        rw [show i + (f - i) = f from by omega, hf, hb] at hm
        have := congrArg List.length hm
        simp at this
        omega
    have hx : (List.range met)[i]? = some i := List.getElem?_range hlt
    have hb2 := bfs_step hb hx
    rw [toAt, ha] at hb2
    obtain ⟨r, hr⟩ := hpre (i + 1) (by omega)
    rw [hb2] at hr
    have hokI := hok i hi
    obtain ⟨m, hm⟩ := arcGo_of S.length s.2 met (-1) S.length (ha ▸ hokI.1) (fun a haa => by have := hokI.2 a (ha ▸ haa); omega) ⟨r, hr⟩
    have g3 := (arcGo_some _ _ _ _ _ hm).2.2
    rw [metGo, if_neg hne, hm]
    exact metGo_of S hok f hf hlen t (i + 1) m hd2 (by rw [hb2, g3]) (by omega)
theorem metOK_iff (S : List St) : metOK S = true ↔ (1 ≤ S.length ∧ S.length ≤ 16384) ∧ (∀ j, j < S.length → ArcsOK S j) ∧ IsBfs (toAt S) 0 (List.range S.length) := by
  unfold metOK
  rw [Bool.and_eq_true, decide_eq_true_eq]
  constructor
  · rintro ⟨hn, hm⟩
    obtain ⟨h1, m, h2, h3⟩ := metGo_true S S 0 1 (by simp) (by simp [bfs]) hm (by simp) (by omega)
    have hall := bfs_all (toAt S) (fun x => x < S.length) (fun x hx y hy => by
      obtain ⟨a, ha, rfl⟩ := List.mem_map.1 hy
      exact ((h1 x (by omega) hx).2 a ha).2.2.2) S.length 0 [0] (by simp; omega)
    rw [h2] at hall
    have hmn : m ≤ S.length := by
      rcases Nat.lt_or_ge S.length m with h | h
      · have := hall S.length (by simp; omega); omega
      · exact h
    obtain rfl : m = S.length := by omega
    exact ⟨hn, fun j hj => h1 j (by omega) hj, S.length, h2, by simp⟩
  · rintro ⟨hn, hok, f, hf, hlen⟩
    exact ⟨hn, metGo_of S hok f hf (by simpa using hlen) S 0 1 (by simp) (by simp [bfs]) (by simp)⟩
end Go.Proofs.Ytjndogajdlophaa
