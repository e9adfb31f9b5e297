import Derived.Test.YtjndogajdlophaaDcA
namespace Go.Proofs.Ytjndogajdlophaa
open Go
set_option linter.unusedVariables false

/-! The tally: of each state how many endings it has, how long they are. -/
def valE (E : List Nat) (j : Nat) : Nat := E.getD j 0
structure TalOK (S : List St) (E G : List Nat) : Prop where
  lenE : E.length = S.length
  lenG : G.length = S.length
  ends : ∀ i, i < S.length → 0 < valE E i → valE E i = (if finAt S i then 1 else 0) + sumE (valE E) (arcsAt S i)
  most : ∀ i, i < S.length → 0 < valE E i → valE E i ≤ 4096 ∧ valE G i ≤ 64
  next : ∀ i, i < S.length → 0 < valE E i → ∀ a ∈ arcsAt S i, 0 < valE E a.2.1.toNat ∧ valE G a.2.1.toNat + 1 ≤ valE G i
structure Sane (S : List St) (e g : Nat → Nat) : Prop where
  ends : ∀ i, i < S.length → e i = (if finAt S i then 1 else 0) + sumE e (arcsAt S i)
  least : ∀ i, i < S.length → 1 ≤ e i
  most : ∀ i, i < S.length → e i ≤ 4096
  long : ∀ i, i < S.length → ∀ a ∈ arcsAt S i, g a.2.1.toNat + 1 ≤ g i
  deep : ∀ i, i < S.length → g i ≤ 64
def Agree (S : List St) (E G : List Nat) (e g : Nat → Nat) : Prop := ∀ i, i < S.length → 0 < valE E i → valE E i = e i ∧ valE G i ≤ g i
theorem valE_set (E : List Nat) (i x j : Nat) (hi : i < E.length) : valE (E.set i x) j = if j = i then x else valE E j := by
  unfold valE
  rw [List.getD_eq_getElem?_getD, List.getD_eq_getElem?_getD, List.getElem?_set]
  by_cases h : j = i
  · subst h; simp [hi]
  · rw [if_neg h, if_neg (fun e => h e.symm)]
theorem sumE_congr {e e' : Nat → Nat} {l : List Ar} (h : ∀ a ∈ l, e a.2.1.toNat = e' a.2.1.toNat) : sumE e l = sumE e' l := by
  unfold sumE
  rw [List.map_congr_left h]
theorem sumE_take {e : Nat → Nat} {l : List Ar} {k : Nat} {a : Ar} (h : l[k]? = some a) : sumE e (l.take (k + 1)) = sumE e (l.take k) + e a.2.1.toNat := by
  obtain ⟨hk, rfl⟩ := List.getElem?_eq_some_iff.1 h
  rw [sumE, List.take_succ_eq_append_getElem hk, List.map_append, List.sum_append]
  simp [sumE]
/-- What one state is given. -/
theorem TalOK.set {S : List St} {E G : List Nat} (h : TalOK S E G) {i en lo : Nat} (hi : i < S.length) (hen : en = (if finAt S i then 1 else 0) + sumE (valE E) (arcsAt S i))
    (hpos : ∀ a ∈ arcsAt S i, 0 < valE E a.2.1.toNat ∧ valE G a.2.1.toNat + 1 ≤ lo) (hlo : ∀ m, (∀ a ∈ arcsAt S i, valE G a.2.1.toNat + 1 ≤ m) → lo ≤ m) (h1 : en ≤ 4096) (h2 : lo ≤ 64) : TalOK S (E.set i en) (G.set i lo) := by
  have vE := fun j => valE_set E i en j (by rw [h.lenE]; exact hi)
  have vG := fun j => valE_set G i lo j (by rw [h.lenG]; exact hi)
  by_cases h0 : 0 < valE E i
  · have hsame : en = valE E i := hen.trans (h.ends i hi h0).symm
    have hlo' : lo ≤ valE G i := hlo _ fun a ha => (h.next i hi h0 a ha).2
    have vE' : ∀ j, valE (E.set i en) j = valE E j := by
      intro j
      rw [vE]
      by_cases hj : j = i
      · rw [if_pos hj, hj, hsame]
      · rw [if_neg hj]
    have hno : ∀ a ∈ arcsAt S i, a.2.1.toNat ≠ i := fun a ha he => by have := (h.next i hi h0 a ha).2; rw [he] at this; omega
    refine ⟨by simpa using h.lenE, by simpa using h.lenG, fun j hj hp => ?_, fun j hj hp => ?_, fun j hj hp a ha => ?_⟩
    · rw [vE'] at hp ⊢
      rw [h.ends j hj hp, sumE_congr (fun a _ => vE' _)]
    · rw [vE'] at hp ⊢
      refine ⟨(h.most j hj hp).1, ?_⟩
      rw [vG]
      split
      · exact h2
      · exact (h.most j hj hp).2
    · rw [vE'] at hp ⊢
      have hn := h.next j hj hp a ha
      refine ⟨hn.1, ?_⟩
      rw [vG, vG]
      by_cases hji : j = i
      · subst hji
        rw [if_pos rfl, if_neg (hno a ha)]
        exact (hpos a ha).2
      · rw [if_neg hji]
        split
        · rename_i ht; rw [ht] at hn; omega
        · exact hn.2
  · have h0' : valE E i = 0 := by omega
    have hne : ∀ j, j < S.length → 0 < valE E j → ∀ a ∈ arcsAt S j, a.2.1.toNat ≠ i := fun j hj hp a ha he => by have := (h.next j hj hp a ha).1; rw [he] at this; omega
    have hno : ∀ a ∈ arcsAt S i, a.2.1.toNat ≠ i := fun a ha he => by have := (hpos a ha).1; rw [he] at this; omega
    refine ⟨by simpa using h.lenE, by simpa using h.lenG, fun j hj hp => ?_, fun j hj hp => ?_, fun j hj hp a ha => ?_⟩
    · by_cases hji : j = i
      · subst hji
        have e1 : sumE (valE (E.set j en)) (arcsAt S j) = sumE (valE E) (arcsAt S j) := sumE_congr fun a ha => by rw [vE, if_neg (hno a ha)]
        rw [e1, vE, if_pos rfl]
        exact hen
      · rw [vE, if_neg hji] at hp ⊢
        rw [h.ends j hj hp]
        congr 1
        exact sumE_congr fun a ha => by rw [vE, if_neg (hne j hj hp a ha)]
    · by_cases hji : j = i
      · subst hji; rw [vE, vG, if_pos rfl, if_pos rfl]; exact ⟨h1, h2⟩
      · rw [vE, if_neg hji] at hp ⊢
        rw [vG, if_neg hji]
        exact h.most j hj hp
    · by_cases hji : j = i
      · subst hji
        rw [vE, vG, vG, if_neg (hno a ha), if_neg (hno a ha), if_pos rfl]
        exact hpos a ha
      · rw [vE, if_neg hji] at hp
        rw [vE, vG, vG, if_neg (hne j hj hp a ha), if_neg (hne j hj hp a ha), if_neg hji]
        exact h.next j hj hp a ha
/-- What a way through all states has counted. -/
theorem TalOK.ends_all {S : List St} {E G : List Nat} (h : TalOK S E G) (h0 : 0 < valE E 0) (hn : 0 < S.length) (hto : ∀ i, i < S.length → ∀ a ∈ arcsAt S i, a.2.1.toNat < S.length) (hb : IsBfs (toAt S) 0 (List.range S.length)) : ∀ i, i < S.length → 0 < valE E i := by
  intro i hi
  have := hb.all (fun x => x < S.length ∧ 0 < valE E x) ⟨hn, h0⟩ (fun x hx y hy => by
    obtain ⟨a, ha, rfl⟩ := List.mem_map.1 hy
    exact ⟨hto x hx.1 a ha, (h.next x hx.1 hx.2 a ha).1⟩) i (by simp; exact hi)
  exact this.2
theorem IsDict.sane {c : Int} {S : List St} {ts : List Tx} (h : IsDict (c, S) ts) (hne : ts ≠ []) : Sane S (fun i => (lang S i).length) (fun i => maxT (lang S i)) := by
  have hc := h.checks hne
  refine ⟨hc.ends, hc.least, ?_, hc.long, hc.deep⟩
  obtain ⟨hg, ord, hb, hlen, hd⟩ := h
  unfold dictOf at hd
  obtain ⟨_, hS⟩ := Prod.mk.inj hd
  intro i hi
  have hi' : i < ord.length := by rw [hS, List.length_map] at hi; exact hi
  have hway : ∀ L ∈ ord, OnWay ts L := hb.all (OnWay ts) ⟨hg.1, hne, Nat.le_refl _, fun t ht => (hg.2.2 t ht).2⟩ (fun x hx => hx.next)
  have hw := hway ord[i] (List.getElem_mem hi')
  have := langF_of hb 65 i ord[i] (List.getElem?_eq_getElem hi') hw.1 (fun t ht => by have := hw.2.2.2 t ht; omega)
  rw [← hS] at this
  show (lang S i).length ≤ 4096
  rw [lang, this]
  exact Nat.le_trans hw.2.2.1 hg.2.1
end Go.Proofs.Ytjndogajdlophaa
