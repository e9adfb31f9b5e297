
namespace Go.Proofs.YtifgcimmlonagaaDoor
set_option linter.unusedVariables false

/-! A heap at whose head the greatest stands, and what is taken of it, in plain words. -/
structure Ord {α : Type} (gt : α → α → Bool) : Prop where
  asym : ∀ a b, gt a b = true → gt b a = false
  nt : ∀ a b c, gt a b = false → gt b c = false → gt a c = false
  anti : ∀ a b, gt a b = false → gt b a = false → a = b
theorem Ord.irr {α : Type} {gt : α → α → Bool} (h : Ord gt) (a : α) : gt a a = false := by
  cases e : gt a a with
  | false => rfl
  | true => have := h.asym a a e; rw [e] at this; exact this
theorem Ord.push {α : Type} {gt : α → α → Bool} (h : Ord gt) {a b c : α} (h1 : gt a b = false) (h2 : gt c b = true) : gt a c = false := by
  cases e : gt a c with
  | false => rfl
  | true =>
    have h3 := h.asym c b h2
    have h4 := h.asym a c e
    have h5 := h.nt a b c h1 h3
    rw [e] at h5
    exact h5
def Heap {α : Type} (gt : α → α → Bool) (d : α) (H : List α) (n : Nat) : Prop := ∀ k, 0 < k → k < n → gt (H.getD k d) (H.getD ((k - 1) / 2) d) = false
def UpInv {α : Type} (gt : α → α → Bool) (d : α) (H : List α) (j : Nat) : Prop :=
  (∀ k, 0 < k → k < H.length → k ≠ j → gt (H.getD k d) (H.getD ((k - 1) / 2) d) = false) ∧
  (0 < j → ∀ k, 0 < k → k < H.length → (k - 1) / 2 = j → gt (H.getD k d) (H.getD ((j - 1) / 2) d) = false) ∧ j < H.length
def DownInv {α : Type} (gt : α → α → Bool) (d : α) (H : List α) (i n : Nat) : Prop :=
  (∀ k, 0 < k → k < n → (k - 1) / 2 ≠ i → gt (H.getD k d) (H.getD ((k - 1) / 2) d) = false) ∧
  (0 < i → ∀ k, 0 < k → k < n → (k - 1) / 2 = i → gt (H.getD k d) (H.getD ((i - 1) / 2) d) = false) ∧ n ≤ H.length
def swp {α : Type} (d : α) (H : List α) (i j : Nat) : List α := (H.set i (H.getD j d)).set j (H.getD i d)
theorem swp_len {α : Type} (d : α) (H : List α) (i j : Nat) : (swp d H i j).length = H.length := by simp [swp]
theorem swp_at {α : Type} (d : α) (H : List α) (i j : Nat) (hi : i < H.length) (hj : j < H.length) (k : Nat) : (swp d H i j).getD k d = if k = j then H.getD i d else if k = i then H.getD j d else H.getD k d := by
  unfold swp
  rw [List.getD_eq_getElem?_getD, List.getElem?_set]
  by_cases h1 : j = k
  · subst h1
    rw [if_pos rfl, if_pos rfl, if_pos (by simpa using hj)]; rfl
  · rw [if_neg h1, if_neg (fun e => h1 e.symm), List.getElem?_set]
    by_cases h2 : i = k
    · subst h2
      rw [if_pos rfl, if_pos hi, if_pos rfl]; rfl
    · rw [if_neg h2, if_neg (fun e => h2 e.symm), List.getD_eq_getElem?_getD]
theorem set_two_perm {α : Type} (d : α) : ∀ (H : List α) (i j : Nat), i < j → j < H.length → (swp d H i j).Perm H
  | [], i, j, _, hj => by simp at hj
  | x :: H, 0, j + 1, _, hj => by
    simp only [List.length_cons, Nat.add_lt_add_iff_right] at hj
    have e : swp d (x :: H) 0 (j + 1) = H.getD j d :: H.set j x := by simp [swp]
    rw [e]
    have e2 : H = H.take j ++ H.getD j d :: H.drop (j + 1) := by
      conv => lhs; rw [← List.take_append_drop j H, List.drop_eq_getElem_cons hj]
      simp [hj]
    have e3 : H.set j x = H.take j ++ x :: H.drop (j + 1) := by rw [List.set_eq_take_append_cons_drop, if_pos hj]
    rw [e3]
    conv => rhs; rw [e2]
    refine (List.perm_middle.cons _).trans ?_
    refine (List.Perm.swap _ _ _).trans ?_
    exact (List.perm_middle.symm).cons _
  | x :: H, i + 1, j + 1, h, hj => by
    have e : swp d (x :: H) (i + 1) (j + 1) = x :: swp d H i j := by simp [swp]
    rw [e]
    exact (set_two_perm d H i j (by omega) (by simpa using hj)).cons x
theorem swp_comm {α : Type} (d : α) (H : List α) (i j : Nat) (hi : i < H.length) (hj : j < H.length) : swp d H i j = swp d H j i := by
  apply List.ext_getElem?
  intro k
  by_cases hk : k < H.length
  · have h1 := swp_at d H i j hi hj k
    have h2 := swp_at d H j i hj hi k
    have e : (swp d H i j).getD k d = (swp d H j i).getD k d := by
      rw [h1, h2]
      by_cases a : k = j
      · by_cases b : k = i
        · subst a; subst b; rfl
        · rw [if_pos a, if_neg b, if_pos a]
      · by_cases b : k = i
        · rw [if_neg a, if_pos b, if_pos b]
        · rw [if_neg a, if_neg b, if_neg b, if_neg a]
    rw [List.getD_eq_getElem?_getD, List.getD_eq_getElem?_getD, List.getElem?_eq_getElem (by rw [swp_len]; exact hk), List.getElem?_eq_getElem (by rw [swp_len]; exact hk)] at e
    rw [List.getElem?_eq_getElem (by rw [swp_len]; exact hk), List.getElem?_eq_getElem (by rw [swp_len]; exact hk)]
    simpa using e
  · rw [List.getElem?_eq_none (by rw [swp_len]; omega), List.getElem?_eq_none (by rw [swp_len]; omega)]
theorem swp_perm {α : Type} (d : α) (H : List α) (i j : Nat) (hi : i < H.length) (hj : j < H.length) : (swp d H i j).Perm H := by
  rcases Nat.lt_trichotomy i j with h | h | h
  · exact set_two_perm d H i j h hj
  · subst h
    have : swp d H i i = H := by
      unfold swp
      rw [List.set_set]
      apply List.ext_getElem?
      intro k
      rw [List.getElem?_set]
      by_cases e : i = k
      · subst e; rw [if_pos rfl, if_pos hi]; simp [hi]
      · rw [if_neg e]
    rw [this]
  · rw [swp_comm d H i j hi hj]; exact set_two_perm d H j i h hi
theorem UpInv.step {α : Type} {gt : α → α → Bool} (o : Ord gt) {d : α} {H : List α} {j : Nat} (h : UpInv gt d H j) (hj : 0 < j) (hg : gt (H.getD j d) (H.getD ((j - 1) / 2) d) = true) : UpInv gt d (swp d H ((j - 1) / 2) j) ((j - 1) / 2) := by
  obtain ⟨h1, h2, h3⟩ := h
  obtain ⟨p, hp⟩ : ∃ p, (j - 1) / 2 = p := ⟨_, rfl⟩
  rw [hp] at hg h2 ⊢
  have hpl : p < H.length := by omega
  have at' := swp_at d H p j hpl h3
  refine ⟨fun k k0 kl kn => ?_, fun p0 k k0 kl ke => ?_, by rw [swp_len]; exact hpl⟩
  · rw [swp_len] at kl
    rw [at', at']
    by_cases e1 : k = j
    · subst e1
      rw [if_pos rfl, hp, if_neg (by omega), if_pos rfl]
      exact o.asym _ _ hg
    · rw [if_neg e1, if_neg kn]
      by_cases e2 : (k - 1) / 2 = j
      · rw [if_pos e2]; exact h2 hj k k0 kl e2
      · rw [if_neg e2]
        by_cases e3 : (k - 1) / 2 = p
        · rw [if_pos e3]
          have := h1 k k0 kl e1
          rw [e3] at this
          exact o.push this hg
        · rw [if_neg e3]; exact h1 k k0 kl e1
  · rw [swp_len] at kl
    rw [at', at', if_neg (by omega : ¬ (p - 1) / 2 = j), if_neg (by omega : ¬ (p - 1) / 2 = p)]
    have hpp := h1 p p0 hpl (by omega)
    by_cases e1 : k = j
    · rw [if_pos e1]; exact hpp
    · rw [if_neg e1, if_neg (by omega)]
      have := h1 k k0 kl e1
      rw [ke] at this
      exact o.nt _ _ _ this hpp
theorem UpInv.done {α : Type} {gt : α → α → Bool} {d : α} {H : List α} {j : Nat} (h : UpInv gt d H j) (he : j = 0 ∨ gt (H.getD j d) (H.getD ((j - 1) / 2) d) = false) : Heap gt d H H.length := by
  intro k k0 kl
  by_cases e : k = j
  · subst e
    rcases he with he | he
    · omega
    · exact he
  · exact h.1 k k0 kl e
theorem UpInv.start {α : Type} {gt : α → α → Bool} {d : α} {H : List α} (v : α) (h : Heap gt d H H.length) : UpInv gt d (H ++ [v]) H.length := by
  have at' : ∀ k, k < H.length → (H ++ [v]).getD k d = H.getD k d := by
    intro k hk
    rw [List.getD_eq_getElem?_getD, List.getElem?_append_left hk, List.getD_eq_getElem?_getD]
  refine ⟨fun k k0 kl kn => ?_, fun j0 k k0 kl ke => ?_, by simp⟩
  · simp at kl
    rw [at' k (by omega), at' _ (by omega)]
    exact h k k0 (by omega)
  · simp at kl; omega
theorem DownInv.done0 {α : Type} {gt : α → α → Bool} {d : α} {H : List α} {i n : Nat} (h : DownInv gt d H i n) (he : n ≤ 2 * i + 1) : Heap gt d H n := fun k k0 kl => h.1 k k0 kl (by omega)
theorem DownInv.done1 {α : Type} {gt : α → α → Bool} (o : Ord gt) {d : α} {H : List α} {i j n : Nat} (h : DownInv gt d H i n) (hj : j = 2 * i + 1 ∨ j = 2 * i + 2) (hjn : j < n)
    (hb : ∀ k, 0 < k → k < n → (k - 1) / 2 = i → gt (H.getD k d) (H.getD j d) = false) (hg : gt (H.getD j d) (H.getD i d) = false) : Heap gt d H n := by
  intro k k0 kl
  by_cases e : (k - 1) / 2 = i
  · rw [e]; exact o.nt _ _ _ (hb k k0 kl e) hg
  · exact h.1 k k0 kl e
theorem DownInv.step {α : Type} {gt : α → α → Bool} (o : Ord gt) {d : α} {H : List α} {i j n : Nat} (h : DownInv gt d H i n) (hj : j = 2 * i + 1 ∨ j = 2 * i + 2) (hjn : j < n)
    (hb : ∀ k, 0 < k → k < n → (k - 1) / 2 = i → gt (H.getD k d) (H.getD j d) = false) (hg : gt (H.getD j d) (H.getD i d) = true) : DownInv gt d (swp d H i j) j n := by
  obtain ⟨h1, h2, h3⟩ := h
  have at' := swp_at d H i j (by omega) (by omega)
  have hpj : (j - 1) / 2 = i := by omega
  refine ⟨fun k k0 kl kn => ?_, fun j0 k k0 kl ke => ?_, by rw [swp_len]; exact h3⟩
  · rw [at', at', if_neg kn]
    by_cases e1 : k = j
    · subst e1
      rw [if_pos rfl, if_pos hpj]
      exact o.asym _ _ hg
    · rw [if_neg e1]
      by_cases e2 : (k - 1) / 2 = i
      · rw [if_pos e2, if_neg (by omega)]; exact hb k k0 kl e2
      · rw [if_neg e2]
        by_cases e3 : k = i
        · rw [if_pos e3]; subst e3; exact h2 k0 j (by omega) hjn hpj
        · rw [if_neg e3]; exact h1 k k0 kl e2
  · rw [at', at', hpj, if_neg (by omega : ¬ i = j), if_pos rfl, if_neg (by omega), if_neg (by omega)]
    have := h1 k k0 kl (by omega)
    rw [ke] at this
    exact this
/-- The two kids of a place: which is taken. -/
theorem kids_best {α : Type} {gt : α → α → Bool} (o : Ord gt) {d : α} {H : List α} {i n : Nat} (j : Nat) (hj : (j = 2 * i + 2 ∧ gt (H.getD (2 * i + 2) d) (H.getD (2 * i + 1) d) = true) ∨ (j = 2 * i + 1 ∧ (n ≤ 2 * i + 2 ∨ gt (H.getD (2 * i + 2) d) (H.getD (2 * i + 1) d) = false))) :
    ∀ k, 0 < k → k < n → (k - 1) / 2 = i → gt (H.getD k d) (H.getD j d) = false := by
  intro k k0 kl ke
  rcases (show k = 2 * i + 1 ∨ k = 2 * i + 2 by omega) with rfl | rfl
  · rcases hj with ⟨rfl, hg⟩ | ⟨rfl, hg⟩
    · exact o.asym _ _ hg
    · exact o.irr _
  · rcases hj with ⟨rfl, hg⟩ | ⟨rfl, hg⟩
    · exact o.irr _
    · rcases hg with hg | hg
      · omega
      · exact hg
theorem Heap.top {α : Type} {gt : α → α → Bool} (o : Ord gt) {d : α} {H : List α} {n : Nat} (h : Heap gt d H n) : ∀ k, k < n → gt (H.getD k d) (H.getD 0 d) = false := by
  intro k
  induction k using Nat.strongRecOn with
  | ind k ih =>
    intro hk
    by_cases e : k = 0
    · subst e; exact o.irr _
    · exact o.nt _ _ _ (h k (by omega) hk) (ih ((k - 1) / 2) (by omega) (by omega))
theorem Heap.top_mem {α : Type} {gt : α → α → Bool} (o : Ord gt) {d : α} {H : List α} (h : Heap gt d H H.length) : ∀ x ∈ H, gt x (H.getD 0 d) = false := by
  intro x hx
  obtain ⟨k, hk, rfl⟩ := List.getElem_of_mem hx
  have := h.top o k hk
  rw [List.getD_eq_getElem?_getD, List.getElem?_eq_getElem hk] at this
  exact this
/-- Behind the swap of the head and the last one. -/
theorem DownInv.start {α : Type} {gt : α → α → Bool} (o : Ord gt) {d : α} {H : List α} {n : Nat} (h : Heap gt d H H.length) (hn : H.length = n + 1) : DownInv gt d (swp d H 0 n) 0 n := by
  have at' := swp_at d H 0 n (by omega) (by omega)
  refine ⟨fun k k0 kl kn => ?_, fun j0 => by omega, by rw [swp_len]; omega⟩
  rw [at', at', if_neg (by omega), if_neg (by omega), if_neg (by omega), if_neg kn]
  exact h k k0 (by omega)
theorem Heap.cut {α : Type} {gt : α → α → Bool} {d : α} {H : List α} {n : Nat} (h : Heap gt d H n) (hn : n ≤ H.length) : Heap gt d (H.take n) (H.take n).length := by
  have e : (H.take n).length = n := by rw [List.length_take]; omega
  rw [e]
  intro k k0 kl
  have at' : ∀ k, k < n → (H.take n).getD k d = H.getD k d := by
    intro k hk
    rw [List.getD_eq_getElem?_getD, List.getElem?_take, if_pos hk, List.getD_eq_getElem?_getD]
  rw [at' k kl, at' _ (by omega)]
  exact h k k0 kl
theorem heap_nil {α : Type} (gt : α → α → Bool) (d : α) : Heap gt d [] 0 := fun k _ h => by omega
/-! What is kept of a list: no more than so many, the least. -/
abbrev Srt {α : Type} (gt : α → α → Bool) (L : List α) : Prop := L.Pairwise fun a b => gt a b = false
def Kept {α : Type} (gt : α → α → Bool) (P H D : List α) : Prop := (H ++ D).Perm P ∧ ∀ x ∈ H, ∀ y ∈ D, gt x y = false
theorem Kept.add {α : Type} {gt : α → α → Bool} {P H D H' : List α} {v : α} (h : Kept gt P H D) (hD : D = []) (hp : H'.Perm (H ++ [v])) : Kept gt (P ++ [v]) H' D := by
  subst hD
  refine ⟨?_, fun x _ y hy => by cases hy⟩
  rw [List.append_nil]
  have := h.1
  rw [List.append_nil] at this
  exact hp.trans (this.append_right [v])
theorem Kept.drop {α : Type} {gt : α → α → Bool} (o : Ord gt) {P H D H' : List α} {v m : α} (h : Kept gt P H D) (hp : (H' ++ [m]).Perm (H ++ [v])) (hm : ∀ x ∈ H ++ [v], gt x m = false) : Kept gt (P ++ [v]) H' (m :: D) := by
  obtain ⟨h1, h2⟩ := h
  refine ⟨?_, fun x hx y hy => ?_⟩
  · have e : H' ++ m :: D = (H' ++ [m]) ++ D := by simp
    rw [e]
    refine (hp.append_right D).trans ?_
    rw [List.append_assoc]
    refine (List.perm_append_comm.append_left H).trans ?_
    rw [← List.append_assoc]
    exact h1.append_right [v]
  · have hx' : x ∈ H ++ [v] := hp.mem_iff.1 (by simp [hx])
    rcases List.mem_cons.1 hy with rfl | hy
    · exact hm x hx'
    · rcases List.mem_append.1 hx' with hx' | hx'
      · exact h2 x hx' y hy
      · have e : x = v := by simpa using hx'
        subst e
        have hmm : m ∈ H ++ [x] := hp.mem_iff.1 (by simp)
        rcases List.mem_append.1 hmm with hmm | hmm
        · exact o.nt _ _ _ (hm x (by simp)) (h2 m hmm y hy)
        · have e2 : m = x := by simpa using hmm
          subst e2
          have hq : H'.Perm H := (List.perm_append_right_iff [m]).1 hp
          exact h2 m (hq.mem_iff.1 hx) y hy
theorem srt_eq {α : Type} {gt : α → α → Bool} (o : Ord gt) : ∀ {A B : List α}, A.Perm B → Srt gt A → Srt gt B → A = B
  | [], B, h, _, _ => (List.Perm.nil_eq h)
  | a :: A, [], h, _, _ => by have := h.length_eq; simp at this
  | a :: A, b :: B, h, ha, hb => by
    rw [Srt, List.pairwise_cons] at ha hb
    have e : a = b := by
      have h1 : a ∈ b :: B := h.mem_iff.1 (by simp)
      have h2 : b ∈ a :: A := h.mem_iff.2 (by simp)
      rcases List.mem_cons.1 h1 with h1 | h1
      · exact h1
      · rcases List.mem_cons.1 h2 with h2 | h2
        · exact h2.symm
        · exact o.anti _ _ (ha.1 b h2) (hb.1 a h1)
    subst e
    rw [srt_eq o ((List.perm_cons a).1 h) ha.2 hb.2]
theorem tot {α : Type} {gt : α → α → Bool} (o : Ord gt) (a b : α) : (!gt a b || !gt b a) = true := by
  cases e : gt a b with
  | false => rfl
  | true => rw [o.asym a b e]; rfl
theorem Kept.first {α : Type} {gt : α → α → Bool} (o : Ord gt) {P H D T R : List α} {most : Nat} (h : Kept gt P H D) (hT : T.Perm H) (hs : Srt gt T) (hl : H.length = min P.length most) (hR : R.Perm P) (hRs : Srt gt R) : T = R.take most := by
  obtain ⟨h1, h2⟩ := h
  let S := D.mergeSort fun a b => !gt a b
  have hS : S.Perm D := List.mergeSort_perm D _
  have hSs : Srt gt S := by
    have := List.pairwise_mergeSort (le := fun a b => !gt a b) (fun a b c x y => by
      simp only [Bool.not_eq_true'] at *
      exact o.nt a b c x y) (fun a b => tot o a b) D
    refine this.imp ?_
    intro a b hab
    simpa using hab
  have hTS : (T ++ S).Perm P := (hT.append hS).trans h1
  have hTSs : Srt gt (T ++ S) := by
    rw [Srt, List.pairwise_append]
    exact ⟨hs, hSs, fun a ha b hb => h2 a (hT.mem_iff.1 ha) b (hS.mem_iff.1 hb)⟩
  have e := srt_eq o (hTS.trans hR.symm) hTSs hRs
  have hlT : T.length = min P.length most := by rw [hT.length_eq, hl]
  rw [← e]
  by_cases hc : P.length ≤ most
  · have : S.length = 0 := by
      have := hTS.length_eq
      rw [List.length_append] at this
      omega
    rw [List.length_eq_zero_iff.1 this, List.append_nil, List.take_of_length_le (by omega)]
  · rw [List.take_append_of_le_length (by omega), List.take_of_length_le (by omega)]
end Go.Proofs.YtifgcimmlonagaaDoor
