import Derived.Test.YtjndogajdlophaaDcL
namespace Go.Proofs.Ytjndogajdlophaa
open Go
set_option linter.unusedVariables false

/-! A dictionary in plain words. -/
abbrev Ar := Int × Int × Int
abbrev St := Bool × List Ar
def st0 : St := (false, [])
def stOf (ord : List (List Tx)) (L : List Tx) : St := (finT L, (labelsT L).map fun (n : Nat) => ((n : Int), ((ord.idxOf (subT n L) : Nat) : Int), ((aheadT n L : Nat) : Int)))
def dictOf (ts : List Tx) (ord : List (List Tx)) : Int × List St := ((ts.length : Int), ord.map (stOf ord))
def GoodT (ts : List Tx) : Prop := RiseT ts ∧ ts.length ≤ 4096 ∧ ∀ t ∈ ts, 1 ≤ t.length ∧ t.length ≤ 64
def IsDict (d : Int × List St) (ts : List Tx) : Prop := GoodT ts ∧ ∃ ord, IsBfs nextT ts ord ∧ ord.length ≤ 16384 ∧ d = dictOf ts ord
def langF (S : List St) : Nat → Nat → List Tx
  | 0, _ => []
  | f + 1, i => joinT (S.getD i st0).1 ((S.getD i st0).2.map fun a => (a.1.toNat, langF S f a.2.1.toNat))

theorem idxOf_at {X : Type} [BEq X] [LawfulBEq X] {o : List X} {x : X} (h : x ∈ o) : o[o.idxOf x]? = some x := by
  have hl := List.idxOf_lt_length_of_mem h
  rw [List.getElem?_eq_getElem hl, List.getElem_idxOf hl]
theorem idxOf_of {X : Type} [BEq X] [LawfulBEq X] {o : List X} (hn : o.Nodup) {x : X} {i : Nat} (h : o[i]? = some x) : o.idxOf x = i := by
  have hm := List.mem_of_getElem? h
  have h2 := idxOf_at hm
  have hi : i < o.length := (List.getElem?_eq_some_iff.1 h).1
  exact ((List.getElem?_inj hi hn).1 (h.trans h2.symm)).symm

/-- The states of a set tell just the set. -/
theorem langF_of {ts : List Tx} {ord : List (List Tx)} (hb : IsBfs nextT ts ord) : ∀ (f i : Nat) (L : List Tx), ord[i]? = some L → RiseT L → (∀ t ∈ L, t.length < f) → langF (ord.map (stOf ord)) f i = L
  | 0, i, L, _, _, h => by
    cases L with
    | nil => rfl
    | cons t r => exact absurd (h t (by simp)) (by omega)
  | f + 1, i, L, hi, hr, h => by
    have hg : (ord.map (stOf ord)).getD i st0 = stOf ord L := by rw [List.getD_eq_getElem?_getD, List.getElem?_map, hi]; rfl
    rw [langF, hg]
    show joinT (finT L) _ = L
    have e : (stOf ord L).2.map (fun a => (a.1.toNat, langF (ord.map (stOf ord)) f a.2.1.toNat)) = (labelsT L).map fun n => (n, subT n L) := by
      rw [stOf, List.map_map]
      refine List.map_congr_left fun n hn => ?_
      have hm : subT n L ∈ ord := hb.closed L (List.mem_of_getElem? hi) _ (List.mem_map.2 ⟨n, hn, rfl⟩)
      have ih := langF_of hb f (ord.idxOf (subT n L)) (subT n L) (idxOf_at hm) (subT_rise hr) (fun t ht => by
        obtain ⟨c, _, hc⟩ := subT_mem.1 ht
        have := h _ hc
        simp at this
        omega)
      simp only [Function.comp, Int.toNat_natCast, ih]
    rw [e]
    exact joinT_self hr
theorem IsDict.langIs {d : Int × List St} {ts : List Tx} (h : IsDict d ts) : langF d.2 65 0 = ts := by
  obtain ⟨hg, ord, hb, _, rfl⟩ := h
  exact langF_of hb 65 0 ts hb.head hg.1 fun t ht => by have := (hg.2.2 t ht).2; omega
theorem IsDict.uniq {d : Int × List St} {ts us : List Tx} (h : IsDict d ts) (h' : IsDict d us) : ts = us := h.langIs.symm.trans h'.langIs
theorem IsDict.fun {d e : Int × List St} {ts : List Tx} (h : IsDict d ts) (h' : IsDict e ts) : d = e := by
  obtain ⟨_, o1, h1, _, rfl⟩ := h
  obtain ⟨_, o2, h2, _, rfl⟩ := h'
  rw [h1.uniq h2]

/-! What a join tells. -/
theorem nat_ext : ∀ {A B : List Nat}, A.Pairwise (· < ·) → B.Pairwise (· < ·) → (∀ n, n ∈ A ↔ n ∈ B) → A = B
  | [], [], _, _, _ => rfl
  | [], b :: B, _, _, h => by have := (h b).2 (by simp); simp at this
  | a :: A, [], _, _, h => by have := (h a).1 (by simp); simp at this
  | a :: A, b :: B, ha, hb, h => by
    rw [List.pairwise_cons] at ha hb
    have e : a = b := by
      have h1 := (h a).1 (by simp)
      have h2 := (h b).2 (by simp)
      rcases List.mem_cons.1 h1 with h1 | h1
      · exact h1
      · rcases List.mem_cons.1 h2 with h2 | h2
        · exact h2.symm
        · have := hb.1 a h1; have := ha.1 b h2; omega
    subst e
    congr 1
    refine nat_ext ha.2 hb.2 fun t => ?_
    constructor
    · intro ht
      rcases List.mem_cons.1 ((h t).1 (by simp [ht])) with rfl | h'
      · exact absurd (ha.1 t ht) (by omega)
      · exact h'
    · intro ht
      rcases List.mem_cons.1 ((h t).2 (by simp [ht])) with rfl | h'
      · exact absurd (hb.1 t ht) (by omega)
      · exact h'
section
variable {f : Bool} {l : List (Nat × List Tx)}
theorem finT_join (hl : ∀ p ∈ l, p.1 < 256) : finT (joinT f l) = f := by
  cases f with
  | true => exact finT_mem.2 ((joinT_mem hl).2 (Or.inl ⟨rfl, rfl⟩))
  | false =>
    cases h : finT (joinT false l) with
    | false => rfl
    | true =>
      rcases (joinT_mem hl).1 (finT_mem.1 h) with ⟨h1, _⟩ | ⟨p, _, c, r, _, _, h2⟩
      · cases h1
      · cases h2
theorem subT_join (hl : ∀ p ∈ l, p.1 < 256) (hs : l.Pairwise fun p q => p.1 < q.1) (hr : ∀ p ∈ l, RiseT p.2) {p : Nat × List Tx} (hp : p ∈ l) : subT p.1 (joinT f l) = p.2 := by
  refine rise_ext (subT_rise (joinT_rise hl hs hr)) (hr p hp) fun t => ?_
  rw [subT_mem]
  constructor
  · rintro ⟨c, hc, hm⟩
    rcases (joinT_mem hl).1 hm with ⟨_, h⟩ | ⟨q, hq, c', r, hc', hr', h⟩
    · cases h
    · cases h
      have e : p = q := by
        obtain ⟨i, hi⟩ := List.mem_iff_getElem?.1 hp
        obtain ⟨j, hj⟩ := List.mem_iff_getElem?.1 hq
        have hil := (List.getElem?_eq_some_iff.1 hi).1
        have hjl := (List.getElem?_eq_some_iff.1 hj).1
        have hpi : l[i] = p := (List.getElem?_eq_some_iff.1 hi).2
        have hqj : l[j] = q := (List.getElem?_eq_some_iff.1 hj).2
        have hpw := List.pairwise_iff_getElem.1 hs
        rcases Nat.lt_trichotomy i j with h | h | h
        · have := hpw i j hil hjl h; rw [hpi, hqj] at this; omega
        · subst h; exact hpi.symm.trans hqj
        · have := hpw j i hjl hil h; rw [hpi, hqj] at this; omega
      subst e
      exact hr'
  · intro ht
    exact ⟨UInt8.ofNat p.1, ofNat_toNat (hl p hp), (joinT_mem hl).2 (Or.inr ⟨p, hp, _, t, ofNat_toNat (hl p hp), ht, rfl⟩)⟩
theorem labelsT_join (hl : ∀ p ∈ l, p.1 < 256) (hs : l.Pairwise fun p q => p.1 < q.1) (hr : ∀ p ∈ l, RiseT p.2) (hne : ∀ p ∈ l, p.2 ≠ []) : labelsT (joinT f l) = l.map Prod.fst := by
  refine nat_ext (labelsT_lt _) (by rw [List.pairwise_map]; exact hs) fun n => ?_
  rw [labelsT_mem, List.mem_map]
  constructor
  · rintro ⟨hn, h⟩
    obtain ⟨t, ht⟩ := List.exists_mem_of_ne_nil _ h
    obtain ⟨c, hc, hm⟩ := subT_mem.1 ht
    rcases (joinT_mem hl).1 hm with ⟨_, h⟩ | ⟨q, hq, c', r, hc', hr', h⟩
    · cases h
    · cases h
      exact ⟨q, hq, by omega⟩
  · rintro ⟨p, hp, rfl⟩
    exact ⟨hl p hp, by rw [subT_join hl hs hr hp]; exact hne p hp⟩
theorem nextT_join (hl : ∀ p ∈ l, p.1 < 256) (hs : l.Pairwise fun p q => p.1 < q.1) (hr : ∀ p ∈ l, RiseT p.2) (hne : ∀ p ∈ l, p.2 ≠ []) : nextT (joinT f l) = l.map Prod.snd := by
  rw [nextT, labelsT_join hl hs hr hne, List.map_map]
  exact List.map_congr_left fun p hp => subT_join hl hs hr hp
theorem countP_body (n : Nat) : ∀ (l : List (Nat × List Tx)), (∀ p ∈ l, p.1 < 256) → (l.flatMap fun p => p.2.map fun t => UInt8.ofNat p.1 :: t).countP (isAhead n) = ((l.filter fun p => decide (p.1 < n)).map fun p => p.2.length).sum
  | [], _ => by simp
  | p :: t, h => by
    rw [List.flatMap_cons, List.countP_append, countP_body n t (fun q hq => h q (by simp [hq]))]
    have e : (p.2.map fun t => UInt8.ofNat p.1 :: t).countP (isAhead n) = if p.1 < n then p.2.length else 0 := by
      rw [List.countP_map]
      by_cases hp : p.1 < n
      · rw [if_pos hp, List.countP_eq_length.2]
        intro x _
        simp [Function.comp, isAhead, ofNat_toNat (h p (by simp)), hp]
      · rw [if_neg hp, List.countP_eq_zero.2]
        intro x _
        simp [Function.comp, isAhead, ofNat_toNat (h p (by simp))]
        omega
    rw [e, List.filter_cons]
    by_cases hp : p.1 < n
    · simp [hp]
    · simp [hp]
theorem aheadT_join (hl : ∀ p ∈ l, p.1 < 256) (n : Nat) : aheadT n (joinT f l) = (if f then 1 else 0) + ((l.filter fun p => decide (p.1 < n)).map fun p => p.2.length).sum := by
  rw [aheadT, joinT, List.countP_append, countP_body n l hl]
  cases f <;> simp [isAhead]
theorem joinT_length : (joinT f l).length = (if f then 1 else 0) + (l.map fun p => p.2.length).sum := by
  rw [joinT, List.length_append, List.length_flatMap]
  congr 1
  · cases f <;> rfl
  · congr 1
    exact List.map_congr_left fun p _ => by simp
end
end Go.Proofs.Ytjndogajdlophaa
