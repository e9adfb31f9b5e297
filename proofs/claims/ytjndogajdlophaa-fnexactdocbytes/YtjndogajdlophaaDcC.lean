import Derived.Test.YtjndogajdlophaaDcD
namespace Go.Proofs.Ytjndogajdlophaa
open Go
set_option linter.unusedVariables false

/-! What is looked at in a dictionary that is handed in, and that it is enough. -/
def arcsAt (S : List St) (i : Nat) : List Ar := (S.getD i st0).2
def finAt (S : List St) (i : Nat) : Bool := (S.getD i st0).1
def toAt (S : List St) (i : Nat) : List Nat := (arcsAt S i).map fun a => a.2.1.toNat
def sumE (e : Nat → Nat) (l : List Ar) : Nat := (l.map fun a => e a.2.1.toNat).sum
structure Checks (c : Int) (S : List St) (e g : Nat → Nat) : Prop where
  n2 : S.length ≤ 16384
  n1 : 1 ≤ S.length
  rise : ∀ i, i < S.length → (arcsAt S i).Pairwise fun a b => a.1 < b.1
  lab : ∀ i, i < S.length → ∀ a ∈ arcsAt S i, 0 ≤ a.1 ∧ a.1 ≤ 255
  to : ∀ i, i < S.length → ∀ a ∈ arcsAt S i, 0 ≤ a.2.1 ∧ a.2.1.toNat < S.length
  met : IsBfs (toAt S) 0 (List.range S.length)
  ends : ∀ i, i < S.length → e i = (if finAt S i then 1 else 0) + sumE e (arcsAt S i)
  least : ∀ i, i < S.length → 1 ≤ e i
  most : e 0 ≤ 4096
  long : ∀ i, i < S.length → ∀ a ∈ arcsAt S i, g a.2.1.toNat + 1 ≤ g i
  deep : ∀ i, i < S.length → g i ≤ 64
  diff : ∀ i j, i < S.length → j < S.length → finAt S i = finAt S j → ((arcsAt S i).map fun a => (a.1, a.2.1)) = ((arcsAt S j).map fun a => (a.1, a.2.1)) → i = j
  ahead : ∀ i, i < S.length → ∀ k a, (arcsAt S i)[k]? = some a → a.2.2 = (((if finAt S i then 1 else 0) + sumE e ((arcsAt S i).take k) : Nat) : Int)
  count : c = ((e 0 : Nat) : Int)
  fin0 : finAt S 0 = false

section
variable {c : Int} {S : List St} {e g : Nat → Nat}
def rowF (S : List St) (f i : Nat) : List (Nat × List Tx) := (arcsAt S i).map fun a => (a.1.toNat, langF S f a.2.1.toNat)
theorem langF_succ (S : List St) (f i : Nat) : langF S (f + 1) i = joinT (finAt S i) (rowF S f i) := rfl
theorem rowF_lab (h : Checks c S e g) {f i : Nat} (hi : i < S.length) : (∀ p ∈ rowF S f i, p.1 < 256) ∧ (rowF S f i).Pairwise fun p q => p.1 < q.1 := by
  constructor
  · intro p hp
    obtain ⟨a, ha, rfl⟩ := List.mem_map.1 hp
    have := h.lab i hi a ha
    show a.1.toNat < 256
    omega
  · rw [rowF, List.pairwise_map]
    refine (h.rise i hi).imp_of_mem ?_
    intro a b ha hb hab
    have h1 := h.lab i hi a ha
    have h2 := h.lab i hi b hb
    show a.1.toNat < b.1.toNat
    omega
theorem langF_same (h : Checks c S e g) : ∀ (f f' i : Nat), i < S.length → g i < f → g i < f' → langF S f i = langF S f' i
  | 0, f', i, _, h1, _ => absurd h1 (by omega)
  | f + 1, 0, i, _, _, h2 => absurd h2 (by omega)
  | f + 1, f' + 1, i, hi, h1, h2 => by
    rw [langF_succ, langF_succ]
    congr 1
    refine List.map_congr_left fun a ha => ?_
    have h3 := h.long i hi a ha
    rw [langF_same h f f' a.2.1.toNat (h.to i hi a ha).2 (by omega) (by omega)]
theorem langF_facts (h : Checks c S e g) : ∀ (f i : Nat), i < S.length → g i < f → RiseT (langF S f i) ∧ (langF S f i).length = e i ∧ ∀ t ∈ langF S f i, t.length ≤ g i
  | 0, i, _, h1 => absurd h1 (by omega)
  | f + 1, i, hi, h1 => by
    obtain ⟨hl, hs⟩ := rowF_lab h (f := f) hi
    have hrow : ∀ a ∈ arcsAt S i, RiseT (langF S f a.2.1.toNat) ∧ (langF S f a.2.1.toNat).length = e a.2.1.toNat ∧ ∀ t ∈ langF S f a.2.1.toNat, t.length ≤ g a.2.1.toNat := fun a ha =>
      langF_facts h f a.2.1.toNat (h.to i hi a ha).2 (by have := h.long i hi a ha; omega)
    rw [langF_succ]
    refine ⟨joinT_rise hl hs ?_, ?_, ?_⟩
    · intro p hp
      obtain ⟨a, ha, rfl⟩ := List.mem_map.1 hp
      exact (hrow a ha).1
    · rw [joinT_length, h.ends i hi]
      congr 1
      rw [rowF, List.map_map, sumE]
      congr 1
      exact List.map_congr_left fun a ha => (hrow a ha).2.1
    · intro t ht
      rcases (joinT_mem hl).1 ht with ⟨_, rfl⟩ | ⟨p, hp, c', r, _, hr, rfl⟩
      · exact Nat.zero_le _
      · obtain ⟨a, ha, rfl⟩ := List.mem_map.1 hp
        have h2 := (hrow a ha).2.2 r hr
        have h3 := h.long i hi a ha
        simp only [List.length_cons]
        omega
/-- The endings of a state. -/
def lang (S : List St) (i : Nat) : List Tx := langF S 65 i
theorem lang_join (h : Checks c S e g) {i : Nat} (hi : i < S.length) : lang S i = joinT (finAt S i) ((arcsAt S i).map fun a => (a.1.toNat, lang S a.2.1.toNat)) := by
  have e1 : lang S i = joinT (finAt S i) (rowF S 64 i) := langF_succ S 64 i
  have e2 : rowF S 64 i = (arcsAt S i).map fun a => (a.1.toNat, lang S a.2.1.toNat) := by
    unfold rowF
    apply List.map_congr_left
    intro a ha
    have h3 := h.long i hi a ha
    have h4 := h.deep i hi
    have h5 : langF S 64 a.2.1.toNat = lang S a.2.1.toNat := langF_same h 64 65 a.2.1.toNat (h.to i hi a ha).2 (by omega) (by omega)
    rw [h5]
  rw [e1, e2]
theorem lang_facts (h : Checks c S e g) {i : Nat} (hi : i < S.length) : RiseT (lang S i) ∧ (lang S i).length = e i ∧ (∀ t ∈ lang S i, t.length ≤ g i) ∧ lang S i ≠ [] := by
  obtain ⟨h1, h2, h3⟩ := langF_facts h 65 i hi (by have := h.deep i hi; omega)
  refine ⟨h1, h2, h3, ?_⟩
  intro he
  have := h.least i hi
  rw [lang] at he
  rw [he] at h2
  simp at h2
  omega
def row (S : List St) (i : Nat) : List (Nat × List Tx) := (arcsAt S i).map fun a => (a.1.toNat, lang S a.2.1.toNat)
theorem row_facts (h : Checks c S e g) {i : Nat} (hi : i < S.length) : (∀ p ∈ row S i, p.1 < 256) ∧ ((row S i).Pairwise fun p q => p.1 < q.1) ∧ (∀ p ∈ row S i, RiseT p.2) ∧ ∀ p ∈ row S i, p.2 ≠ [] := by
  obtain ⟨hl, hs⟩ := rowF_lab h (f := 65) hi
  refine ⟨hl, hs, ?_, ?_⟩
  · intro p hp
    obtain ⟨a, ha, rfl⟩ := List.mem_map.1 hp
    exact (lang_facts h (h.to i hi a ha).2).1
  · intro p hp
    obtain ⟨a, ha, rfl⟩ := List.mem_map.1 hp
    exact (lang_facts h (h.to i hi a ha).2).2.2.2
theorem lang_next (h : Checks c S e g) {i : Nat} (hi : i < S.length) : nextT (lang S i) = (toAt S i).map (lang S) := by
  obtain ⟨h1, h2, h3, h4⟩ := row_facts h hi
  rw [lang_join h hi]
  show nextT (joinT _ (row S i)) = _
  rw [nextT_join h1 h2 h3 h4, row, toAt, List.map_map, List.map_map]
  rfl
theorem map_eq_of {A B : Type} (F : Ar → A) (G : Ar → B) : ∀ (l m : List Ar), (∀ a ∈ l, ∀ b ∈ m, F a = F b → G a = G b) → l.map F = m.map F → l.map G = m.map G
  | [], [], _, _ => rfl
  | [], b :: m, _, h => by simp at h
  | a :: l, [], _, h => by simp at h
  | a :: l, b :: m, hh, h => by
    simp only [List.map_cons, List.cons.injEq] at h ⊢
    exact ⟨hh a (by simp) b (by simp) h.1, map_eq_of F G l m (fun x hx y hy => hh x (by simp [hx]) y (by simp [hy])) h.2⟩
theorem row_of_lang (h : Checks c S e g) {i : Nat} (hi : i < S.length) : (labelsT (lang S i)).map (fun n => (n, subT n (lang S i))) = row S i := by
  obtain ⟨h1, h2, h3, h4⟩ := row_facts h hi
  have e1 : lang S i = joinT (finAt S i) (row S i) := lang_join h hi
  rw [e1, labelsT_join h1 h2 h3 h4, List.map_map]
  conv => rhs; rw [← List.map_id (row S i)]
  refine List.map_congr_left fun p hp => ?_
  simp only [Function.comp, subT_join h1 h2 h3 hp, id]
theorem lang_fin (h : Checks c S e g) {i : Nat} (hi : i < S.length) : finT (lang S i) = finAt S i := by
  rw [lang_join h hi]
  exact finT_join (row_facts h hi).1
theorem lang_inj (h : Checks c S e g) : ∀ (m i j : Nat), i < S.length → j < S.length → g i < m → lang S i = lang S j → i = j
  | 0, i, j, _, _, h1, _ => absurd h1 (by omega)
  | m + 1, i, j, hi, hj, h1, he => by
    refine h.diff i j hi hj (by rw [← lang_fin h hi, ← lang_fin h hj, he]) ?_
    have hr : row S i = row S j := by rw [← row_of_lang h hi, ← row_of_lang h hj, he]
    refine map_eq_of (fun a => (a.1.toNat, lang S a.2.1.toNat)) (fun a => (a.1, a.2.1)) _ _ ?_ hr
    intro a ha b hb hab
    simp only [Prod.mk.injEq] at hab ⊢
    have ta := h.to i hi a ha
    have tb := h.to j hj b hb
    have la := h.lab i hi a ha
    have lb := h.lab j hj b hb
    have h3 := h.long i hi a ha
    have := lang_inj h m a.2.1.toNat b.2.1.toNat ta.2 tb.2 (by omega) hab.2
    exact ⟨by omega, by omega⟩
theorem filter_take : ∀ (l : List Ar), l.Pairwise (fun a b => a.1 < b.1) → (∀ a ∈ l, 0 ≤ a.1) → ∀ (k : Nat) (a : Ar), l[k]? = some a → (l.filter fun b => decide (b.1.toNat < a.1.toNat)) = l.take k
  | [], _, _, k, a, h => by simp at h
  | x :: l, hp, h0, 0, a, h => by
    simp at h
    subst h
    rw [List.take_zero, List.filter_eq_nil_iff]
    intro b hb
    rw [List.pairwise_cons] at hp
    rcases List.mem_cons.1 hb with rfl | hb
    · simp
    · have := hp.1 b hb
      have := h0 x (by simp)
      simp
      omega
  | x :: l, hp, h0, k + 1, a, h => by
    rw [List.pairwise_cons] at hp
    have h' : l[k]? = some a := by simpa using h
    have hm := List.mem_of_getElem? h'
    have h1 := hp.1 a hm
    have h2 := h0 x (by simp)
    rw [List.filter_cons, if_pos (by simp; omega), List.take_succ_cons, filter_take l hp.2 (fun b hb => h0 b (by simp [hb])) k a h']
/-- Enough. -/
theorem Checks.dict (h : Checks c S e g) : IsDict (c, S) (lang S 0) := by
  have h0 : 0 < S.length := h.n1
  obtain ⟨f1, f2, f3, f4⟩ := lang_facts h h0
  have hinj : ∀ x y, x < S.length → y < S.length → lang S x = lang S y → x = y := fun x y hx hy he => lang_inj h _ x y hx hy (Nat.lt_succ_self _) he
  have hbfs : IsBfs nextT (lang S 0) ((List.range S.length).map (lang S)) :=
    h.met.map nextT (lang S) (fun i => i < S.length) h0 hinj (fun x hx y hy => by
      obtain ⟨a, ha, rfl⟩ := List.mem_map.1 hy
      exact (h.to x hx a ha).2) (fun x hx => lang_next h hx)
  refine ⟨⟨f1, by rw [f2]; exact h.most, ?_⟩, _, hbfs, by simpa using h.n2, ?_⟩
  · intro t ht
    have h5 := h.deep 0 h0
    have h6 := f3 t ht
    refine ⟨?_, by omega⟩
    cases t with
    | nil =>
      have := finT_mem.2 ht
      rw [lang_fin h h0, h.fin0] at this
      cases this
    | cons => simp
  · unfold dictOf
    refine Prod.ext ?_ ?_
    · show c = _
      rw [f2]; exact h.count
    · show S = _
      apply List.ext_getElem (by simp)
      intro i hi hi'
      have hi2 : i < S.length := hi
      have e1 : S[i] = (finAt S i, arcsAt S i) := by simp [finAt, arcsAt, hi]
      rw [e1, List.getElem_map, List.getElem_map, List.getElem_range]
      unfold stOf
      rw [lang_fin h hi2]
      congr 1
      obtain ⟨r1, r2, r3, r4⟩ := row_facts h hi2
      have e2 : lang S i = joinT (finAt S i) (row S i) := lang_join h hi2
      have hord : ((List.range S.length).map (lang S)).Nodup := hbfs.nodup
      apply List.ext_getElem
      · rw [List.length_map, e2, labelsT_join r1 r2 r3 r4, List.length_map, row, List.length_map]
      · intro k hk hk'
        have hka : (arcsAt S i)[k]? = some (arcsAt S i)[k] := List.getElem?_eq_getElem hk
        generalize hae : (arcsAt S i)[k] = a at *
        have ham : a ∈ arcsAt S i := List.mem_of_getElem? hka
        have hta := h.to i hi2 a ham
        have hla := h.lab i hi2 a ham
        have hlab : (labelsT (lang S i))[k]? = some a.1.toNat := by
          rw [e2, labelsT_join r1 r2 r3 r4, row, List.map_map, List.getElem?_map, hka]; rfl
        have hpm : (a.1.toNat, lang S a.2.1.toNat) ∈ row S i := List.mem_map.2 ⟨a, ham, rfl⟩
        have hsub : subT a.1.toNat (lang S i) = lang S a.2.1.toNat := by rw [e2]; exact subT_join r1 r2 r3 hpm
        have hidx : ((List.range S.length).map (lang S)).idxOf (lang S a.2.1.toNat) = a.2.1.toNat := idxOf_of hord (by simp [hta.2])
        have hah : aheadT a.1.toNat (lang S i) = (if finAt S i then 1 else 0) + sumE e ((arcsAt S i).take k) := by
          rw [e2, aheadT_join r1]
          congr 1
          rw [← filter_take (arcsAt S i) (h.rise i hi2) (fun b hb => (h.lab i hi2 b hb).1) k a hka, row, List.filter_map, List.map_map, sumE]
          congr 1
          refine List.map_congr_left fun b hb => ?_
          have hb' := (List.mem_filter.1 hb).1
          exact (lang_facts h (h.to i hi2 b hb').2).2.1
        have hlk : k < (labelsT (lang S i)).length := (List.getElem?_eq_some_iff.1 hlab).1
        have hlg : (labelsT (lang S i))[k] = a.1.toNat := (List.getElem?_eq_some_iff.1 hlab).2
        rw [List.getElem_map, hlg, hsub, hidx, hah, ← h.ahead i hi2 k a hka]
        refine Prod.ext ?_ (Prod.ext ?_ rfl)
        · show a.1 = _; simp; omega
        · show a.2.1 = _; simp; omega
end
end Go.Proofs.Ytjndogajdlophaa
