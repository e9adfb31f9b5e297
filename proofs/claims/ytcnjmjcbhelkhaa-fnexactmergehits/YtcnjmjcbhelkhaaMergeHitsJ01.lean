import Derived.Below
namespace Go.Proofs.Ytcnjmjcbhelkhaa
set_option linter.unusedVariables false

/-! A heap at whose head the greatest stands, and what is taken of it, in plain words. -/
structure Ord {α : Type} (gt : α → α → Bool) : Prop where
  asym : ∀ a b, gt a b = true → gt b a = false
  nt : ∀ a b c, gt a b = false → gt b c = false → gt a c = false
  anti : ∀ a b, gt a b = false → gt b a = false → a = b
theorem Ord.irr {α : Type} {gt : α → α → Bool} (h : Ord gt) (a : α) : gt a a = false := by
  cases e : gt a a with
  | false => rfl
  | true => have := h.asym a a e; rw [e] at this; exact this
theorem Ord.push {α : Type} {gt : α → α → Bool} (h : Ord gt) {a b c : α} (h1 : gt a b = false) (h2 : gt c b = true) : gt a c = false := by
  cases e : gt a c with
  | false => rfl
  | true =>
    have h3 := h.asym c b h2
    have h4 := h.asym a c e
    have h5 := h.nt a b c h1 h3
    rw [e] at h5
    exact h5
def Heap {α : Type} (gt : α → α → Bool) (d : α) (H : List α) (n : Nat) : Prop := ∀ k, 0 < k → k < n → gt (H.getD k d) (H.getD ((k - 1) / 2) d) = false
def UpInv {α : Type} (gt : α → α → Bool) (d : α) (H : List α) (j : Nat) : Prop :=
  (∀ k, 0 < k → k < H.length → k ≠ j → gt (H.getD k d) (H.getD ((k - 1) / 2) d) = false) ∧
  (0 < j → ∀ k, 0 < k → k < H.length → (k - 1) / 2 = j → gt (H.getD k d) (H.getD ((j - 1) / 2) d) = false) ∧ j < H.length
def DownInv {α : Type} (gt : α → α → Bool) (d : α) (H : List α) (i n : Nat) : Prop :=
  (∀ k, 0 < k → k < n → (k - 1) / 2 ≠ i → gt (H.getD k d) (H.getD ((k - 1) / 2) d) = false) ∧
  (0 < i → ∀ k, 0 < k → k < n → (k - 1) / 2 = i → gt (H.getD k d) (H.getD ((i - 1) / 2) d) = false) ∧ n ≤ H.length
def swp {α : Type} (d : α) (H : List α) (i j : Nat) : List α := (H.set i (H.getD j d)).set j (H.getD i d)
theorem swp_len {α : Type} (d : α) (H : List α) (i j : Nat) : (swp d H i j).length = H.length := by simp [swp]
theorem swp_at {α : Type} (d : α) (H : List α) (i j : Nat) (hi : i < H.length) (hj : j < H.length) (k : Nat) : (swp d H i j).getD k d = if k = j then H.getD i d else if k = i then H.getD j d else H.getD k d := by
  unfold swp
  rw [List.getD_eq_getElem?_getD, List.getElem?_set]
  by_cases h1 : j = k
  · subst h1
    rw [if_pos rfl, if_pos rfl, if_pos (by simpa using hj)]; rfl
  · rw [if_neg h1, if_neg (fun e => h1 e.symm), List.getElem?_set]
    by_cases h2 : i = k
    · subst h2
      rw [if_pos rfl, if_pos hi, if_pos rfl]; rfl
    · rw [if_neg h2, if_neg (fun e => h2 e.symm), List.getD_eq_getElem?_getD]
theorem set_two_perm {α : Type} (d : α) : ∀ (H : List α) (i j : Nat), i < j → j < H.length → (swp d H i j).Perm H
  | [], i, j, _, hj => by simp at hj
  | x :: H, 0, j + 1, _, hj => by
    simp only [List.length_cons, Nat.add_lt_add_iff_right] at hj
    have e : swp d (x :: H) 0 (j + 1) = H.getD j d :: H.set j x := by simp [swp]
    rw [e]
    have e2 : H = H.take j ++ H.getD j d :: H.drop (j + 1) := by
      conv => lhs; rw [← List.take_append_drop j H, List.drop_eq_getElem_cons hj]
      simp [hj]
    have e3 : H.set j x = H.take j ++ x :: H.drop (j + 1) := by rw [List.set_eq_take_append_cons_drop, if_pos hj]
    rw [e3]
    conv => rhs; rw [e2]
    refine (List.perm_middle.cons _).trans ?_
    refine (List.Perm.swap _ _ _).trans ?_
    exact (List.perm_middle.symm).cons _
  | x :: H, i + 1, j + 1, h, hj => by
    have e : swp d (x :: H) (i + 1) (j + 1) = x :: swp d H i j := by simp [swp]
    rw [e]
    exact (set_two_perm d H i j (by omega) (by simpa using hj)).cons x
theorem swp_comm {α : Type} (d : α) (H : List α) (i j : Nat) (hi : i < H.length) (hj : j < H.length) : swp d H i j = swp d H j i := by
  apply List.ext_getElem?
  intro k
  by_cases hk : k < H.length
  · have h1 := swp_at d H i j hi hj k
    have h2 := swp_at d H j i hj hi k
    have e : (swp d H i j).getD k d = (swp d H j i).getD k d := by
      rw [h1, h2]
      by_cases a : k = j
      · by_cases b : k = i
        · subst a; subst b; rfl
        · rw [if_pos a, if_neg b, if_pos a]
      · by_cases b : k = i
        · rw [if_neg a, if_pos b, if_pos b]
        · rw [if_neg a, if_neg b, if_neg b, if_neg a]
    rw [List.getD_eq_getElem?_getD, List.getD_eq_getElem?_getD, List.getElem?_eq_getElem (by rw [swp_len]; exact hk), List.getElem?_eq_getElem (by rw [swp_len]; exact hk)] at e
    rw [List.getElem?_eq_getElem (by rw [swp_len]; exact hk), List.getElem?_eq_getElem (by rw [swp_len]; exact hk)]
    simpa using e
  · rw [List.getElem?_eq_none (by rw [swp_len]; omega), List.getElem?_eq_none (by rw [swp_len]; omega)]
theorem swp_perm {α : Type} (d : α) (H : List α) (i j : Nat) (hi : i < H.length) (hj : j < H.length) : (swp d H i j).Perm H := by
  rcases Nat.lt_trichotomy i j with h | h | h
  · exact set_two_perm d H i j h hj
  · subst h
    have : swp d H i i = H := by
      unfold swp
      rw [List.set_set]
      apply List.ext_getElem?
      intro k
      rw [List.getElem?_set]
      by_cases e : i = k
      · subst e; rw [if_pos rfl, if_pos hi]; simp [hi]
      · rw [if_neg e]
    rw [this]
  · rw [swp_comm d H i j hi hj]; exact set_two_perm d H j i h hi
theorem UpInv.step {α : Type} {gt : α → α → Bool} (o : Ord gt) {d : α} {H : List α} {j : Nat} (h : UpInv gt d H j) (hj : 0 < j) (hg : gt (H.getD j d) (H.getD ((j - 1) / 2) d) = true) : UpInv gt d (swp d H ((j - 1) / 2) j) ((j - 1) / 2) := by
  obtain ⟨h1, h2, h3⟩ := h
  obtain ⟨p, hp⟩ : ∃ p, (j - 1) / 2 = p := ⟨_, rfl⟩
  rw [hp] at hg h2 ⊢
  have hpl : p < H.length := by omega
  have at' := swp_at d H p j hpl h3
  refine ⟨fun k k0 kl kn => ?_, fun p0 k k0 kl ke => ?_, by rw [swp_len]; exact hpl⟩
  · rw [swp_len] at kl
    rw [at', at']
    by_cases e1 : k = j
    · subst e1
      rw [if_pos rfl, hp, if_neg (by omega), if_pos rfl]
      exact o.asym _ _ hg
    · rw [if_neg e1, if_neg kn]
      by_cases e2 : (k - 1) / 2 = j
      · rw [if_pos e2]; exact h2 hj k k0 kl e2
      · rw [if_neg e2]
        by_cases e3 : (k - 1) / 2 = p
        · rw [if_pos e3]
          have := h1 k k0 kl e1
          rw [e3] at this
          exact o.push this hg
        · rw [if_neg e3]; exact h1 k k0 kl e1
  · rw [swp_len] at kl
    rw [at', at', if_neg (by omega : ¬ (p - 1) / 2 = j), if_neg (by omega : ¬ (p - 1) / 2 = p)]
    have hpp := h1 p p0 hpl (by omega)
    by_cases e1 : k = j
    · rw [if_pos e1]; exact hpp
    · rw [if_neg e1, if_neg (by omega)]
      have := h1 k k0 kl e1
      rw [ke] at this
      exact o.nt _ _ _ this hpp
theorem UpInv.done {α : Type} {gt : α → α → Bool} {d : α} {H : List α} {j : Nat} (h : UpInv gt d H j) (he : j = 0 ∨ gt (H.getD j d) (H.getD ((j - 1) / 2) d) = false) : Heap gt d H H.length := by
  intro k k0 kl
  by_cases e : k = j
  · subst e
    rcases he with he | he
    · omega
    · exact he
  · exact h.1 k k0 kl e
theorem UpInv.start {α : Type} {gt : α → α → Bool} {d : α} {H : List α} (v : α) (h : Heap gt d H H.length) : UpInv gt d (H ++ [v]) H.length := by
  have at' : ∀ k, k < H.length → (H ++ [v]).getD k d = H.getD k d := by
    intro k hk
    rw [List.getD_eq_getElem?_getD, List.getElem?_append_left hk, List.getD_eq_getElem?_getD]
  refine ⟨fun k k0 kl kn => ?_, fun j0 k k0 kl ke => ?_, by simp⟩
  · simp at kl
    rw [at' k (by omega), at' _ (by omega)]
    exact h k k0 (by omega)
  · simp at kl; omega
theorem DownInv.done0 {α : Type} {gt : α → α → Bool} {d : α} {H : List α} {i n : Nat} (h : DownInv gt d H i n) (he : n ≤ 2 * i + 1) : Heap gt d H n := fun k k0 kl => h.1 k k0 kl (by omega)
theorem DownInv.done1 {α : Type} {gt : α → α → Bool} (o : Ord gt) {d : α} {H : List α} {i j n : Nat} (h : DownInv gt d H i n) (hj : j = 2 * i + 1 ∨ j = 2 * i + 2) (hjn : j < n)
    (hb : ∀ k, 0 < k → k < n → (k - 1) / 2 = i → gt (H.getD k d) (H.getD j d) = false) (hg : gt (H.getD j d) (H.getD i d) = false) : Heap gt d H n := by
  intro k k0 kl
  by_cases e : (k - 1) / 2 = i
  · rw [e]; exact o.nt _ _ _ (hb k k0 kl e) hg
  · exact h.1 k k0 kl e
theorem DownInv.step {α : Type} {gt : α → α → Bool} (o : Ord gt) {d : α} {H : List α} {i j n : Nat} (h : DownInv gt d H i n) (hj : j = 2 * i + 1 ∨ j = 2 * i + 2) (hjn : j < n)
    (hb : ∀ k, 0 < k → k < n → (k - 1) / 2 = i → gt (H.getD k d) (H.getD j d) = false) (hg : gt (H.getD j d) (H.getD i d) = true) : DownInv gt d (swp d H i j) j n := by
  obtain ⟨h1, h2, h3⟩ := h
  have at' := swp_at d H i j (by omega) (by omega)
  have hpj : (j - 1) / 2 = i := by omega
  refine ⟨fun k k0 kl kn => ?_, fun j0 k k0 kl ke => ?_, by rw [swp_len]; exact h3⟩
  · rw [at', at', if_neg kn]
    by_cases e1 : k = j
    · subst e1
      rw [if_pos rfl, if_pos hpj]
      exact o.asym _ _ hg
    · rw [if_neg e1]
      by_cases e2 : (k - 1) / 2 = i
      · rw [if_pos e2, if_neg (by omega)]; exact hb k k0 kl e2
      · rw [if_neg e2]
        by_cases e3 : k = i
        · rw [if_pos e3]; subst e3; exact h2 k0 j (by omega) hjn hpj
        · rw [if_neg e3]; exact h1 k k0 kl e2
  · rw [at', at', hpj, if_neg (by omega : ¬ i = j), if_pos rfl, if_neg (by omega), if_neg (by omega)]
    have := h1 k k0 kl (by omega)
    rw [ke] at this
    exact this
/-- The two kids of a place: which is taken. -/
theorem kids_best {α : Type} {gt : α → α → Bool} (o : Ord gt) {d : α} {H : List α} {i n : Nat} (j : Nat) (hj : (j = 2 * i + 2 ∧ gt (H.getD (2 * i + 2) d) (H.getD (2 * i + 1) d) = true) ∨ (j = 2 * i + 1 ∧ (n ≤ 2 * i + 2 ∨ gt (H.getD (2 * i + 2) d) (H.getD (2 * i + 1) d) = false))) :
    ∀ k, 0 < k → k < n → (k - 1) / 2 = i → gt (H.getD k d) (H.getD j d) = false := by
  intro k k0 kl ke
  rcases (show k = 2 * i + 1 ∨ k = 2 * i + 2 by omega) with rfl | rfl
  · rcases hj with ⟨rfl, hg⟩ | ⟨rfl, hg⟩
    · exact o.asym _ _ hg
    · exact o.irr _
  · rcases hj with ⟨rfl, hg⟩ | ⟨rfl, hg⟩
    · exact o.irr _
    · rcases hg with hg | hg
      · omega
      · exact hg
theorem Heap.top {α : Type} {gt : α → α → Bool} (o : Ord gt) {d : α} {H : List α} {n : Nat} (h : Heap gt d H n) : ∀ k, k < n → gt (H.getD k d) (H.getD 0 d) = false := by
  intro k
  induction k using Nat.strongRecOn with
  | ind k ih =>
    intro hk
    by_cases e : k = 0
    · subst e; exact o.irr _
    · exact o.nt _ _ _ (h k (by omega) hk) (ih ((k - 1) / 2) (by omega) (by omega))
theorem Heap.top_mem {α : Type} {gt : α → α → Bool} (o : Ord gt) {d : α} {H : List α} (h : Heap gt d H H.length) : ∀ x ∈ H, gt x (H.getD 0 d) = false := by
  intro x hx
  obtain ⟨k, hk, rfl⟩ := List.getElem_of_mem hx
  have := h.top o k hk
  rw [List.getD_eq_getElem?_getD, List.getElem?_eq_getElem hk] at this
  exact this
/-- Behind the swap of the head and the last one. -/
theorem DownInv.start {α : Type} {gt : α → α → Bool} (o : Ord gt) {d : α} {H : List α} {n : Nat} (h : Heap gt d H H.length) (hn : H.length = n + 1) : DownInv gt d (swp d H 0 n) 0 n := by
  have at' := swp_at d H 0 n (by omega) (by omega)
  refine ⟨fun k k0 kl kn => ?_, fun j0 => by omega, by rw [swp_len]; omega⟩
  rw [at', at', if_neg (by omega), if_neg (by omega), if_neg (by omega), if_neg kn]
  exact h k k0 (by omega)
theorem Heap.cut {α : Type} {gt : α → α → Bool} {d : α} {H : List α} {n : Nat} (h : Heap gt d H n) (hn : n ≤ H.length) : Heap gt d (H.take n) (H.take n).length := by
  have e : (H.take n).length = n := by rw [List.length_take]; omega
  rw [e]
  intro k k0 kl
  have at' : ∀ k, k < n → (H.take n).getD k d = H.getD k d := by
    intro k hk
    rw [List.getD_eq_getElem?_getD, List.getElem?_take, if_pos hk, List.getD_eq_getElem?_getD]
  rw [at' k kl, at' _ (by omega)]
  exact h k k0 kl
/-! What is kept of a list: no more than so many, the least. -/
abbrev Srt {α : Type} (gt : α → α → Bool) (L : List α) : Prop := L.Pairwise fun a b => gt a b = false
def Kept {α : Type} (gt : α → α → Bool) (P H D : List α) : Prop := (H ++ D).Perm P ∧ ∀ x ∈ H, ∀ y ∈ D, gt x y = false
theorem Kept.add {α : Type} {gt : α → α → Bool} {P H D H' : List α} {v : α} (h : Kept gt P H D) (hD : D = []) (hp : H'.Perm (H ++ [v])) : Kept gt (P ++ [v]) H' D := by
  subst hD
  refine ⟨?_, fun x _ y hy => by cases hy⟩
  rw [List.append_nil]
  have := h.1
  rw [List.append_nil] at this
  exact hp.trans (this.append_right [v])
theorem Kept.drop {α : Type} {gt : α → α → Bool} (o : Ord gt) {P H D H' : List α} {v m : α} (h : Kept gt P H D) (hp : (H' ++ [m]).Perm (H ++ [v])) (hm : ∀ x ∈ H ++ [v], gt x m = false) : Kept gt (P ++ [v]) H' (m :: D) := by
  obtain ⟨h1, h2⟩ := h
  refine ⟨?_, fun x hx y hy => ?_⟩
  · have e : H' ++ m :: D = (H' ++ [m]) ++ D := by simp
    rw [e]
    refine (hp.append_right D).trans ?_
    rw [List.append_assoc]
    refine (List.perm_append_comm.append_left H).trans ?_
    rw [← List.append_assoc]
    exact h1.append_right [v]
  · have hx' : x ∈ H ++ [v] := hp.mem_iff.1 (by simp [hx])
    rcases List.mem_cons.1 hy with rfl | hy
    · exact hm x hx'
    · rcases List.mem_append.1 hx' with hx' | hx'
      · exact h2 x hx' y hy
      · have e : x = v := by simpa using hx'
        subst e
        have hmm : m ∈ H ++ [x] := hp.mem_iff.1 (by simp)
        rcases List.mem_append.1 hmm with hmm | hmm
        · exact o.nt _ _ _ (hm x (by simp)) (h2 m hmm y hy)
        · have e2 : m = x := by simpa using hmm
          subst e2
          have hq : H'.Perm H := (List.perm_append_right_iff [m]).1 hp
          exact h2 m (hq.mem_iff.1 hx) y hy
theorem srt_eq {α : Type} {gt : α → α → Bool} (o : Ord gt) : ∀ {A B : List α}, A.Perm B → Srt gt A → Srt gt B → A = B
  | [], B, h, _, _ => (List.Perm.nil_eq h)
  | a :: A, [], h, _, _ => by have := h.length_eq; simp at this
  | a :: A, b :: B, h, ha, hb => by
    rw [Srt, List.pairwise_cons] at ha hb
    have e : a = b := by
      have h1 : a ∈ b :: B := h.mem_iff.1 (by simp)
      have h2 : b ∈ a :: A := h.mem_iff.2 (by simp)
      rcases List.mem_cons.1 h1 with h1 | h1
      · exact h1
      · rcases List.mem_cons.1 h2 with h2 | h2
        · exact h2.symm
        · exact o.anti _ _ (ha.1 b h2) (hb.1 a h1)
    subst e
    rw [srt_eq o ((List.perm_cons a).1 h) ha.2 hb.2]
theorem tot {α : Type} {gt : α → α → Bool} (o : Ord gt) (a b : α) : (!gt a b || !gt b a) = true := by
  cases e : gt a b with
  | false => rfl
  | true => rw [o.asym a b e]; rfl
theorem Kept.first {α : Type} {gt : α → α → Bool} (o : Ord gt) {P H D T R : List α} {most : Nat} (h : Kept gt P H D) (hT : T.Perm H) (hs : Srt gt T) (hl : H.length = min P.length most) (hR : R.Perm P) (hRs : Srt gt R) : T = R.take most := by
  obtain ⟨h1, h2⟩ := h
  let S := D.mergeSort fun a b => !gt a b
  have hS : S.Perm D := List.mergeSort_perm D _
  have hSs : Srt gt S := by
    have := List.pairwise_mergeSort (le := fun a b => !gt a b) (fun a b c x y => by
      simp only [Bool.not_eq_true'] at *
      exact o.nt a b c x y) (fun a b => tot o a b) D
    refine this.imp ?_
    intro a b hab
    simpa using hab
  have hTS : (T ++ S).Perm P := (hT.append hS).trans h1
  have hTSs : Srt gt (T ++ S) := by
    rw [Srt, List.pairwise_append]
    exact ⟨hs, hSs, fun a ha b hb => h2 a (hT.mem_iff.1 ha) b (hS.mem_iff.1 hb)⟩
  have e := srt_eq o (hTS.trans hR.symm) hTSs hRs
  have hlT : T.length = min P.length most := by rw [hT.length_eq, hl]
  rw [← e]
  by_cases hc : P.length ≤ most
  · have : S.length = 0 := by
      have := hTS.length_eq
      rw [List.length_append] at this
      omega
    rw [List.length_eq_zero_iff.1 this, List.append_nil, List.take_of_length_le (by omega)]
  · rw [List.take_append_of_le_length (by omega), List.take_of_length_le (by omega)]
end Go.Proofs.Ytcnjmjcbhelkhaa

namespace Go.Proofs.Ytcnjmjcbhelkhaa
open Go
set_option linter.unusedVariables false

/-! The order in which things are met, from one on. -/
section
variable {X Y : Type} [DecidableEq X] [DecidableEq Y]
def meet (o : List X) (y : X) : List X := if y ∈ o then o else o ++ [y]
def meets (o : List X) (l : List X) : List X := l.foldl meet o
def bfs (nx : X → List X) : Nat → Nat → List X → List X
  | 0, _, o => o
  | f + 1, i, o => match o[i]? with
    | none => o
    | some x => bfs nx f (i + 1) (meets o (nx x))
theorem meet_mem {o : List X} {y z : X} : z ∈ meet o y ↔ z ∈ o ∨ z = y := by
  unfold meet
  split
  · rename_i h; constructor
    · exact Or.inl
    · rintro (h1 | rfl)
      · exact h1
      · exact h
  · simp
theorem meet_nodup {o : List X} {y : X} (h : o.Nodup) : (meet o y).Nodup := by
  unfold meet
  split
  · exact h
  · rename_i hn
    rw [List.nodup_append]
    refine ⟨h, by simp, ?_⟩
    intro a ha b hb
    have e : b = y := by simpa using hb
    subst e
    intro e2
    subst e2
    exact hn ha
theorem meet_pre (o : List X) (y : X) : ∃ r, meet o y = o ++ r := by
  unfold meet
  split
  · exact ⟨[], by simp⟩
  · exact ⟨[y], rfl⟩
theorem meets_mem {l : List X} : ∀ {o : List X} {z : X}, z ∈ meets o l ↔ z ∈ o ∨ z ∈ l := by
  induction l with
  | nil => intro o z; simp [meets]
  | cons y t ih =>
    intro o z
    show z ∈ meets (meet o y) t ↔ _
    rw [ih, meet_mem, List.mem_cons, or_assoc]
theorem meets_nodup {l : List X} : ∀ {o : List X}, o.Nodup → (meets o l).Nodup := by
  induction l with
  | nil => intro o h; exact h
  | cons y t ih => intro o h; exact ih (meet_nodup h)
theorem meets_pre (l : List X) : ∀ (o : List X), ∃ r, meets o l = o ++ r := by
  induction l with
  | nil => intro o; exact ⟨[], by simp [meets]⟩
  | cons y t ih =>
    intro o
    obtain ⟨r1, h1⟩ := meet_pre o y
    obtain ⟨r2, h2⟩ := ih (meet o y)
    exact ⟨r1 ++ r2, by show meets (meet o y) t = _; rw [h2, h1, List.append_assoc]⟩
theorem bfs_pre (nx : X → List X) : ∀ (f i : Nat) (o : List X), ∃ r, bfs nx f i o = o ++ r
  | 0, i, o => ⟨[], by simp [bfs]⟩
  | f + 1, i, o => by
    cases h : o[i]? with
    | none => exact ⟨[], by simp [bfs, h]⟩
    | some x =>
      obtain ⟨r1, h1⟩ := meets_pre (nx x) o
      obtain ⟨r2, h2⟩ := bfs_pre nx f (i + 1) (meets o (nx x))
      exact ⟨r1 ++ r2, by simp only [bfs, h]; rw [h2, h1, List.append_assoc]⟩
theorem bfs_nodup (nx : X → List X) : ∀ (f i : Nat) (o : List X), o.Nodup → (bfs nx f i o).Nodup
  | 0, i, o, h => h
  | f + 1, i, o, h => by
    cases hx : o[i]? with
    | none => simpa [bfs, hx] using h
    | some x => simp only [bfs, hx]; exact bfs_nodup nx f _ _ (meets_nodup h)
/-- Where the way ended, more of it changes nothing. -/
theorem bfs_more (nx : X → List X) : ∀ (f i : Nat) (o : List X), (bfs nx f i o).length ≤ i + f → ∀ k, bfs nx (f + k) i o = bfs nx f i o
  | 0, i, o, h, k => by
    have h' : o.length ≤ i := by simpa [bfs] using h
    cases k with
    | zero => rfl
    | succ k => simp [bfs, List.getElem?_eq_none h']
  | f + 1, i, o, h, k => by
    rw [show f + 1 + k = (f + k) + 1 from by omega]
    cases hx : o[i]? with
    | none => simp [bfs, hx]
    | some x =>
      simp only [bfs, hx] at h ⊢
      exact bfs_more nx f (i + 1) _ (by omega) k
/-- The order that one comes to. -/
def IsBfs (nx : X → List X) (r : X) (o : List X) : Prop := ∃ f, bfs nx f 0 [r] = o ∧ o.length ≤ f
theorem IsBfs.uniq {nx : X → List X} {r : X} {o o' : List X} (h : IsBfs nx r o) (h' : IsBfs nx r o') : o = o' := by
  obtain ⟨f, h1, h2⟩ := h
  obtain ⟨g, h3, h4⟩ := h'
  have e1 := bfs_more nx f 0 [r] (by rw [h1]; omega) g
  have e2 := bfs_more nx g 0 [r] (by rw [h3]; omega) f
  rw [← h1, ← h3, ← e1, ← e2, Nat.add_comm]
theorem IsBfs.head {nx : X → List X} {r : X} {o : List X} (h : IsBfs nx r o) : o[0]? = some r := by
  obtain ⟨f, h1, _⟩ := h
  obtain ⟨q, hq⟩ := bfs_pre nx f 0 [r]
  rw [← h1, hq]; rfl
theorem IsBfs.nodup {nx : X → List X} {r : X} {o : List X} (h : IsBfs nx r o) : o.Nodup := by
  obtain ⟨f, h1, _⟩ := h
  rw [← h1]; exact bfs_nodup nx f 0 _ (by simp)
/-- Whatever is met is met by what was met. -/
theorem bfs_all (nx : X → List X) (P : X → Prop) (hP : ∀ x, P x → ∀ y ∈ nx x, P y) : ∀ (f i : Nat) (o : List X), (∀ x ∈ o, P x) → ∀ x ∈ bfs nx f i o, P x
  | 0, i, o, h => h
  | f + 1, i, o, h => by
    cases hx : o[i]? with
    | none => simpa [bfs, hx] using h
    | some x =>
      simp only [bfs, hx]
      refine bfs_all nx P hP f _ _ ?_
      intro z hz
      rcases meets_mem.1 hz with h1 | h1
      · exact h z h1
      · exact hP x (h x (List.mem_of_getElem? hx)) z h1
theorem IsBfs.all {nx : X → List X} {r : X} {o : List X} (h : IsBfs nx r o) (P : X → Prop) (hr : P r) (hP : ∀ x, P x → ∀ y ∈ nx x, P y) : ∀ x ∈ o, P x := by
  obtain ⟨f, h1, _⟩ := h
  rw [← h1]
  exact bfs_all nx P hP f 0 [r] (by simpa using hr)
/-! A second naming of the same things. -/
theorem meets_map (φ : X → Y) (P : X → Prop) (inj : ∀ x y, P x → P y → φ x = φ y → x = y) (l : List X) : ∀ (o : List X), (∀ x ∈ o, P x) → (∀ x ∈ l, P x) → meets (o.map φ) (l.map φ) = (meets o l).map φ := by
  induction l with
  | nil => intro o _ _; rfl
  | cons y t ih =>
    intro o ho hl
    have hy := hl y (by simp)
    have e : meet (o.map φ) (φ y) = (meet o y).map φ := by
      unfold meet
      by_cases h : y ∈ o
      · rw [if_pos h, if_pos (List.mem_map_of_mem h)]
      · have h' : φ y ∉ o.map φ := by
          intro hc
          obtain ⟨x, hx, he⟩ := List.mem_map.1 hc
          have := inj x y (ho x hx) hy he
          subst this
          exact h hx
        rw [if_neg h, if_neg h']; simp
    show meets (meet (o.map φ) (φ y)) (t.map φ) = _
    rw [e, ih (meet o y) (fun x hx => (meet_mem.1 hx).elim (ho x) (fun h => h ▸ hy)) (fun x hx => hl x (by simp [hx]))]
    rfl
theorem bfs_map (nx : X → List X) (ny : Y → List Y) (φ : X → Y) (P : X → Prop) (inj : ∀ x y, P x → P y → φ x = φ y → x = y) (hP : ∀ x, P x → ∀ y ∈ nx x, P y) (hn : ∀ x, P x → ny (φ x) = (nx x).map φ) :
    ∀ (f i : Nat) (o : List X), (∀ x ∈ o, P x) → bfs ny f i (o.map φ) = (bfs nx f i o).map φ
  | 0, i, o, h => rfl
  | f + 1, i, o, h => by
    cases hx : o[i]? with
    | none => simp [bfs, hx]
    | some x =>
      have hpx := h x (List.mem_of_getElem? hx)
      have e : (o.map φ)[i]? = some (φ x) := by simp [hx]
      simp only [bfs, hx, e]
      rw [hn x hpx, meets_map φ P inj _ o h (hP x hpx)]
      exact bfs_map nx ny φ P inj hP hn f (i + 1) _ (fun z hz => (meets_mem.1 hz).elim (h z) (hP x hpx z))
theorem IsBfs.map {nx : X → List X} {r : X} {o : List X} (h : IsBfs nx r o) (ny : Y → List Y) (φ : X → Y) (P : X → Prop) (hr : P r) (inj : ∀ x y, P x → P y → φ x = φ y → x = y) (hP : ∀ x, P x → ∀ y ∈ nx x, P y) (hn : ∀ x, P x → ny (φ x) = (nx x).map φ) :
    IsBfs ny (φ r) (o.map φ) := by
  obtain ⟨f, h1, h2⟩ := h
  refine ⟨f, ?_, by simpa using h2⟩
  rw [← h1, ← bfs_map nx ny φ P inj hP hn f 0 [r] (by simpa using hr)]
  rfl
end
end Go.Proofs.Ytcnjmjcbhelkhaa
