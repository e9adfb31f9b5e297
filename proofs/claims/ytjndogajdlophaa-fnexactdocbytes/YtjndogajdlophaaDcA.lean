import Derived.Test.YtjndogajdlophaaDcC
namespace Go.Proofs.Ytjndogajdlophaa
open Go
set_option linter.unusedVariables false

/-! And that nothing is looked at that a dictionary has not. -/
def maxT (L : List Tx) : Nat := L.foldl (fun m t => max m t.length) 0
theorem foldl_max (L : List Tx) : ∀ m, m ≤ L.foldl (fun m t => max m t.length) m ∧ ∀ t ∈ L, t.length ≤ L.foldl (fun m t => max m t.length) m := by
  induction L with
  | nil => intro m; simp
  | cons x r ih =>
    intro m
    obtain ⟨h1, h2⟩ := ih (max m x.length)
    simp only [List.foldl_cons]
    refine ⟨by omega, ?_⟩
    intro t ht
    rcases List.mem_cons.1 ht with rfl | ht
    · omega
    · exact h2 t ht
theorem foldl_max_le (L : List Tx) (k : Nat) (h : ∀ t ∈ L, t.length ≤ k) : ∀ m, m ≤ k → L.foldl (fun m t => max m t.length) m ≤ k := by
  induction L with
  | nil => intro m hm; exact hm
  | cons x r ih =>
    intro m hm
    simp only [List.foldl_cons]
    exact ih (fun t ht => h t (by simp [ht])) _ (by have := h x (by simp); omega)
theorem maxT_ge {L : List Tx} {t : Tx} (h : t ∈ L) : t.length ≤ maxT L := (foldl_max L 0).2 t h
theorem maxT_le {L : List Tx} {k : Nat} (h : ∀ t ∈ L, t.length ≤ k) : maxT L ≤ k := foldl_max_le L k h 0 (Nat.zero_le _)
theorem maxT_sub {L : List Tx} {n : Nat} (h : subT n L ≠ []) : maxT (subT n L) + 1 ≤ maxT L := by
  have h1 : ∀ t ∈ subT n L, t.length ≤ maxT L - 1 := by
    intro t ht
    obtain ⟨c, _, hc⟩ := subT_mem.1 ht
    have := maxT_ge hc
    simp at this
    omega
  have h2 := maxT_le h1
  obtain ⟨t, ht⟩ := List.exists_mem_of_ne_nil _ h
  obtain ⟨c, _, hc⟩ := subT_mem.1 ht
  have := maxT_ge hc
  simp at this
  omega
theorem idxOf_range {X : Type} [BEq X] [LawfulBEq X] (o : List X) (hn : o.Nodup) : o.map (fun x => o.idxOf x) = List.range o.length := by
  apply List.ext_getElem (by simp)
  intro i h1 h2
  rw [List.getElem_map, List.getElem_range]
  exact idxOf_of hn (List.getElem?_eq_getElem (by simpa using h1))
theorem sum_filter_labels (L : List Tx) (n : Nat) : ∀ (l : List Nat), ((l.map fun m => (m, subT m L)).filter fun p => decide (p.1 < n)).map (fun p => p.2.length) = (l.filter fun m => decide (m < n)).map fun m => (subT m L).length
  | [] => rfl
  | m :: t => by
    simp only [List.map_cons, List.filter_cons]
    by_cases h : m < n
    · simp only [h, decide_true, if_true, List.map_cons, sum_filter_labels L n t]
    · simp only [h, decide_false, Bool.false_eq_true, if_false, sum_filter_labels L n t]
theorem filter_lt_take : ∀ (l : List Nat), l.Pairwise (· < ·) → ∀ (k n : Nat), l[k]? = some n → (l.filter fun m => decide (m < n)) = l.take k
  | [], _, k, n, h => by simp at h
  | x :: l, hp, 0, n, h => by
    simp at h
    subst h
    rw [List.take_zero, List.filter_eq_nil_iff]
    intro b hb
    rw [List.pairwise_cons] at hp
    rcases List.mem_cons.1 hb with rfl | hb
    · simp
    · have := hp.1 b hb
      simp
      omega
  | x :: l, hp, k + 1, n, h => by
    rw [List.pairwise_cons] at hp
    have h' : l[k]? = some n := by simpa using h
    have h1 := hp.1 n (List.mem_of_getElem? h')
    rw [List.filter_cons, if_pos (by simp; omega), List.take_succ_cons, filter_lt_take l hp.2 k n h']
/-- What is true of every set on the way. -/
def OnWay (ts L : List Tx) : Prop := RiseT L ∧ L ≠ [] ∧ L.length ≤ ts.length ∧ ∀ t ∈ L, t.length ≤ 64
theorem OnWay.next {ts L : List Tx} (h : OnWay ts L) : ∀ M ∈ nextT L, OnWay ts M := by
  intro M hM
  obtain ⟨n, hn, rfl⟩ := List.mem_map.1 hM
  refine ⟨subT_rise h.1, (labelsT_mem.1 hn).2, Nat.le_trans (subT_len n L) h.2.2.1, ?_⟩
  intro t ht
  obtain ⟨c, _, hc⟩ := subT_mem.1 ht
  have := h.2.2.2 _ hc
  simp at this
  omega
theorem IsDict.checks {c : Int} {S : List St} {ts : List Tx} (h : IsDict (c, S) ts) (hne : ts ≠ []) : Checks c S (fun i => (lang S i).length) (fun i => maxT (lang S i)) := by
  obtain ⟨hg, ord, hb, hlen, hd⟩ := h
  unfold dictOf at hd
  obtain ⟨hc, hS⟩ := Prod.mk.inj hd
  have hway : ∀ L ∈ ord, OnWay ts L := hb.all (OnWay ts) ⟨hg.1, hne, Nat.le_refl _, fun t ht => (hg.2.2 t ht).2⟩ (fun x hx => hx.next)
  have hnd := hb.nodup
  have hn : S.length = ord.length := by rw [hS, List.length_map]
  have hst : ∀ i L, ord[i]? = some L → S.getD i st0 = stOf ord L := by
    intro i L hi
    rw [hS, List.getD_eq_getElem?_getD, List.getElem?_map, hi]; rfl
  have hlang : ∀ i L, ord[i]? = some L → lang S i = L := by
    intro i L hi
    have hw := hway L (List.mem_of_getElem? hi)
    have := langF_of hb 65 i L hi hw.1 (fun t ht => by have := hw.2.2.2 t ht; omega)
    rw [← hS] at this
    exact this
  have hat : ∀ i, i < S.length → ∃ L, ord[i]? = some L := fun i hi => ⟨ord[i]'(by omega), List.getElem?_eq_getElem (by omega)⟩
  have harcs : ∀ i L, ord[i]? = some L → arcsAt S i = (labelsT L).map fun (n : Nat) => ((n : Int), ((ord.idxOf (subT n L) : Nat) : Int), ((aheadT n L : Nat) : Int)) := fun i L hi => by rw [arcsAt, hst i L hi]; rfl
  have hfin : ∀ i L, ord[i]? = some L → finAt S i = finT L := fun i L hi => by rw [finAt, hst i L hi]; rfl
  have hsub : ∀ (i : Nat) (L : List Tx), ord[i]? = some L → ∀ n ∈ labelsT L, subT n L ∈ ord := fun i L hi n hn => hb.closed L (List.mem_of_getElem? hi) _ (List.mem_map.2 ⟨n, hn, rfl⟩)
  have hlsub : ∀ (i : Nat) (L : List Tx), ord[i]? = some L → ∀ n ∈ labelsT L, lang S (ord.idxOf (subT n L)) = subT n L := fun i L hi n hn => hlang _ _ (idxOf_at (hsub i L hi n hn))
  have h0 : ord[0]? = some ts := hb.head
  have hsumE : ∀ (i : Nat) (L : List Tx), ord[i]? = some L → ∀ (l : List Nat), (∀ n ∈ l, n ∈ labelsT L) → sumE (fun i => (lang S i).length) (l.map fun (n : Nat) => ((n : Int), ((ord.idxOf (subT n L) : Nat) : Int), ((aheadT n L : Nat) : Int))) = (l.map fun m => (subT m L).length).sum := by
    intro i L hi l hl
    rw [sumE, List.map_map]
    congr 1
    refine List.map_congr_left fun n hn => ?_
    simp only [Function.comp, Int.toNat_natCast]
    rw [hlsub i L hi n (hl n hn)]
  have hjl : ∀ (i : Nat) (L : List Tx), ord[i]? = some L → (∀ p ∈ (labelsT L).map fun n => (n, subT n L), p.1 < 256) := by
    intro i L hi p hp
    obtain ⟨n, hn, rfl⟩ := List.mem_map.1 hp
    exact (labelsT_mem.1 hn).1
  refine ⟨by omega, ?_, ?_, ?_, ?_, ?_, ?_, ?_, ?_, ?_, ?_, ?_, ?_, ?_, ?_⟩
  · have := (List.getElem?_eq_some_iff.1 h0).1; omega
  · intro i hi
    obtain ⟨L, hL⟩ := hat i hi
    rw [harcs i L hL, List.pairwise_map]
    exact (labelsT_lt L).imp fun {a b} h => by show (a : Int) < (b : Int); omega
  · intro i hi a ha
    obtain ⟨L, hL⟩ := hat i hi
    rw [harcs i L hL] at ha
    obtain ⟨n, hn, rfl⟩ := List.mem_map.1 ha
    have := (labelsT_mem.1 hn).1
    show 0 ≤ (n : Int) ∧ (n : Int) ≤ 255
    omega
  · intro i hi a ha
    obtain ⟨L, hL⟩ := hat i hi
    rw [harcs i L hL] at ha
    obtain ⟨n, hn, rfl⟩ := List.mem_map.1 ha
    have := List.idxOf_lt_length_of_mem (hsub i L hL n hn)
    show 0 ≤ ((ord.idxOf (subT n L) : Nat) : Int) ∧ ((ord.idxOf (subT n L) : Nat) : Int).toNat < S.length
    omega
  · have hm := hb.map (toAt S) (fun L => ord.idxOf L) (fun L => L ∈ ord) (List.mem_of_getElem? h0) (fun x y hx hy he => by
      have h1 := idxOf_at hx
      have h2 := idxOf_at hy
      have he' : ord.idxOf x = ord.idxOf y := he
      rw [he', h2] at h1
      exact (Option.some.inj h1).symm) (fun x hx => hb.closed x hx) (fun L hL => by
      have hi := idxOf_at hL
      show toAt S (ord.idxOf L) = (nextT L).map _
      rw [toAt, harcs _ L hi, nextT, List.map_map, List.map_map]
      rfl)
    rw [idxOf_range ord hnd, idxOf_of hnd h0, ← hn] at hm
    exact hm
  · intro i hi
    obtain ⟨L, hL⟩ := hat i hi
    have hw := hway L (List.mem_of_getElem? hL)
    show (lang S i).length = _
    rw [hlang i L hL, hfin i L hL, harcs i L hL, hsumE i L hL _ (fun n hn => hn)]
    have e1 := congrArg List.length (joinT_self hw.1)
    rw [joinT_length, List.map_map] at e1
    exact e1.symm
  · intro i hi
    obtain ⟨L, hL⟩ := hat i hi
    have hw := hway L (List.mem_of_getElem? hL)
    show 1 ≤ (lang S i).length
    rw [hlang i L hL]
    exact List.length_pos_iff.2 hw.2.1
  · show (lang S 0).length ≤ 4096
    rw [hlang 0 ts h0]; exact hg.2.1
  · intro i hi a ha
    obtain ⟨L, hL⟩ := hat i hi
    rw [harcs i L hL] at ha
    obtain ⟨n, hn, rfl⟩ := List.mem_map.1 ha
    show maxT (lang S ((ord.idxOf (subT n L) : Nat) : Int).toNat) + 1 ≤ maxT (lang S i)
    rw [Int.toNat_natCast, hlsub i L hL n hn, hlang i L hL]
    exact maxT_sub (labelsT_mem.1 hn).2
  · intro i hi
    obtain ⟨L, hL⟩ := hat i hi
    have hw := hway L (List.mem_of_getElem? hL)
    show maxT (lang S i) ≤ 64
    rw [hlang i L hL]
    exact maxT_le hw.2.2.2
  · intro i j hi hj hf ha
    obtain ⟨L, hL⟩ := hat i hi
    obtain ⟨M, hM⟩ := hat j hj
    have hwL := hway L (List.mem_of_getElem? hL)
    have hwM := hway M (List.mem_of_getElem? hM)
    rw [hfin i L hL, hfin j M hM] at hf
    rw [harcs i L hL, harcs j M hM, List.map_map, List.map_map] at ha
    have key : (labelsT L).map (fun n => (n, subT n L)) = (labelsT M).map fun n => (n, subT n M) := by
      have e1 : labelsT L = labelsT M := by
        have := congrArg (List.map fun (p : Int × Int) => p.1.toNat) ha
        rw [List.map_map, List.map_map] at this
        have eL : List.map ((fun (p : Int × Int) => p.1.toNat) ∘ ((fun (a : Ar) => (a.1, a.2.1)) ∘ fun (n : Nat) => ((n : Int), ((ord.idxOf (subT n L) : Nat) : Int), ((aheadT n L : Nat) : Int)))) (labelsT L) = labelsT L := by
          conv => rhs; rw [← List.map_id (labelsT L)]
          exact List.map_congr_left fun n _ => by simp
        have eM : List.map ((fun (p : Int × Int) => p.1.toNat) ∘ ((fun (a : Ar) => (a.1, a.2.1)) ∘ fun (n : Nat) => ((n : Int), ((ord.idxOf (subT n M) : Nat) : Int), ((aheadT n M : Nat) : Int)))) (labelsT M) = labelsT M := by
          conv => rhs; rw [← List.map_id (labelsT M)]
          exact List.map_congr_left fun n _ => by simp
        rw [eL, eM] at this
        exact this
      rw [← e1] at ha ⊢
      refine List.map_congr_left fun n hn => ?_
      have h1 := List.map_inj_left.1 ha n hn
      simp only [Function.comp, Prod.mk.injEq, true_and] at h1
      have h2 : ord.idxOf (subT n L) = ord.idxOf (subT n M) := by omega
      have h3 := idxOf_at (hsub i L hL n hn)
      have h4 := idxOf_at (hsub j M hM n (e1 ▸ hn))
      rw [h2, h4] at h3
      rw [Option.some.inj h3]
    have : L = M := by rw [← joinT_self hwL.1, ← joinT_self hwM.1, hf, key]
    subst this
    exact (List.getElem?_inj (by omega) hnd).1 (hL.trans hM.symm)
  · intro i hi k a ha
    obtain ⟨L, hL⟩ := hat i hi
    have hw := hway L (List.mem_of_getElem? hL)
    rw [harcs i L hL, List.getElem?_map] at ha
    cases hk : (labelsT L)[k]? with
    | none => rw [hk] at ha; cases ha
    | some n =>
      rw [hk] at ha
      obtain rfl := (Option.some.inj ha).symm
      show ((aheadT n L : Nat) : Int) = _
      rw [harcs i L hL, hfin i L hL, ← List.map_take, hsumE i L hL _ (fun m hm => List.mem_of_mem_take hm)]
      congr 1
      have e1 := aheadT_join (f := finT L) (hjl i L hL) n
      rw [joinT_self hw.1, sum_filter_labels, filter_lt_take _ (labelsT_lt L) k n hk] at e1
      exact e1
  · show c = (((lang S 0).length : Nat) : Int)
    rw [hlang 0 ts h0]; exact hc
  · show finAt S 0 = false
    rw [hfin 0 ts h0]
    cases hf : finT ts with
    | false => rfl
    | true => have := (hg.2.2 [] (finT_mem.1 hf)).1; simp at this
/-- No terms. -/
theorem bfs_none : IsBfs nextT ([] : List Tx) [[]] := by
  refine ⟨1, ?_, by simp⟩
  have e : nextT ([] : List Tx) = [] := by
    rw [nextT]
    have : labelsT ([] : List Tx) = [] := by
      rw [labelsT, List.filter_eq_nil_iff]
      intro n _
      simp [subT]
    rw [this]; rfl
  simp [bfs, e, meets]
theorem IsDict.none {d : Int × List St} : IsDict d [] ↔ d = (0, [(false, [])]) := by
  have e : dictOf ([] : List Tx) [[]] = (0, [(false, [])]) := by
    have hl : labelsT ([] : List Tx) = [] := by
      rw [labelsT, List.filter_eq_nil_iff]
      intro n _
      simp [subT]
    simp [dictOf, stOf, hl, finT]
  constructor
  · rintro ⟨_, ord, hb, _, rfl⟩
    rw [hb.uniq bfs_none]; exact e
  · rintro rfl
    exact ⟨⟨List.Pairwise.nil, by simp, by simp⟩, [[]], bfs_none, by simp, e.symm⟩
end Go.Proofs.Ytjndogajdlophaa
