import Derived.Test.YtibomnmgiimejadPkQ
namespace Go.Proofs.Ytibomnmgiimejad
open Go
set_option linter.unusedVariables false

/-! Packed lists. -/
def sizeL (n w : Nat) : Nat := (n * w + 7) / 8
def blockL (vs : List Nat) : List UInt8 := UInt8.ofNat (widthL vs) :: bytesL (sizeL vs.length (widthL vs)) (numL (widthL vs) vs)
theorem blockL_length (vs : List Nat) : (blockL vs).length = 1 + sizeL vs.length (widthL vs) := by simp [blockL, bytesL_length]; omega
def packGo (vs : List Nat) : List UInt8 := if vs.length = 0 then [] else blockL (vs.take 128) ++ packGo (vs.drop 128)
termination_by vs.length
decreasing_by simp; omega
def packL (vs : List Nat) : List UInt8 := putL vs.length ++ packGo vs
theorem packGo_nil : packGo [] = [] := by rw [packGo]; simp
theorem packGo_step (vs : List Nat) (h : vs.length ≠ 0) : packGo vs = blockL (vs.take 128) ++ packGo (vs.drop 128) := by rw [packGo, if_neg h]
theorem packGo_app (vs us : List Nat) (h : vs.length ≠ 0) (h1 : vs.length = 128 ∨ (vs.length ≤ 128 ∧ us = [])) : packGo (vs ++ us) = blockL vs ++ packGo us := by
  rw [packGo_step _ (by rw [List.length_append]; omega)]
  rcases h1 with h1 | ⟨h1, rfl⟩
  · have e1 : (vs ++ us).take 128 = vs := by rw [List.take_append, List.take_of_length_le (by omega)]; simp [h1]
    have e2 : (vs ++ us).drop 128 = us := by rw [List.drop_append, List.drop_of_length_le (by omega)]; simp [h1]
    rw [e1, e2]
  · simp only [List.append_nil]
    rw [List.take_of_length_le h1, List.drop_of_length_le h1, packGo_nil, List.append_nil]

def takeN (n w M : Nat) : List Nat := (List.range n).map fun i => M / 2 ^ (i * w) % 2 ^ w
theorem takeN_length (n w M : Nat) : (takeN n w M).length = n := by simp [takeN]
theorem takeN_lt (n w M : Nat) : ∀ v ∈ takeN n w M, v < 2 ^ w := by
  intro v hv
  simp only [takeN, List.mem_map] at hv
  obtain ⟨i, _, rfl⟩ := hv
  exact Nat.mod_lt _ (Nat.pow_pos (by omega))
theorem takeN_num (w : Nat) (vs : List Nat) (h : ∀ v ∈ vs, v < 2 ^ w) : takeN vs.length w (numL w vs) = vs := by
  apply List.ext_getElem (by simp [takeN])
  intro i h1 h2
  simp only [takeN, List.getElem_map, List.getElem_range]
  rw [numL_at w vs i h h2]
  simp [h2]
def rawBlock (bs : List UInt8) (n : Nat) : Option (List Nat × Nat) :=
  match bs with
  | [] => none
  | w :: t => if 62 < w.toNat then none else if t.length < sizeL n w.toNat then none else some (takeN n w.toNat (leNum (t.take (sizeL n w.toNat))), 1 + sizeL n w.toNat)
def readBlock (bs : List UInt8) (n : Nat) : Option (List Nat × Nat) :=
  match rawBlock bs n with
  | none => none
  | some (vs, s) => if blockL vs = bs.take s then some (vs, s) else none

theorem pow62 (w : Nat) (h : w ≤ 62) : 2 ^ w ≤ 4611686018427387904 := by
  have : 2 ^ w ≤ 2 ^ 62 := Nat.pow_le_pow_right (by omega) h
  simpa using this
theorem takeN_62 (n w M : Nat) (h : w ≤ 62) : nums62 (takeN n w M) := fun v hv => Nat.lt_of_lt_of_le (takeN_lt n w M v hv) (pow62 w h)
theorem num_size (n w N : Nat) (h : N < 2 ^ (w * n)) : N < 2 ^ (8 * sizeL n w) :=
  Nat.lt_of_lt_of_le h (Nat.pow_le_pow_right (by omega) (by unfold sizeL; rw [Nat.mul_comm w]; omega))

/-- What is asked of a block that is read: laid again it is what it was. -/
theorem block_again (w : UInt8) (t : List UInt8) (n : Nat) (hw : w.toNat ≤ 62) (ht : sizeL n w.toNat ≤ t.length) :
    (widthL (takeN n w.toNat (leNum (t.take (sizeL n w.toNat)))) = w.toNat ∧ numL w.toNat (takeN n w.toNat (leNum (t.take (sizeL n w.toNat)))) = leNum (t.take (sizeL n w.toNat)))
      ↔ blockL (takeN n w.toNat (leNum (t.take (sizeL n w.toNat)))) = (w :: t).take (1 + sizeL n w.toNat) := by
  have hl : (t.take (sizeL n w.toNat)).length = sizeL n w.toNat := by rw [List.length_take]; omega
  have e1 : (w :: t).take (1 + sizeL n w.toNat) = w :: t.take (sizeL n w.toNat) := by rw [Nat.add_comm, List.take_succ_cons]
  rw [e1]
  generalize hM : leNum (t.take (sizeL n w.toNat)) = M
  have hvl := takeN_length n w.toNat M
  have hvt := takeN_lt n w.toNat M
  have hv62 := takeN_62 n w.toNat M hw
  generalize takeN n w.toNat M = vs at *
  constructor
  · rintro ⟨h1, h2⟩
    rw [blockL, h1, h2, hvl, ← hM]
    have := bytesL_leNum (t.take (sizeL n w.toNat))
    rw [hl] at this
    rw [this]; simp
  · intro h
    rw [blockL] at h
    obtain ⟨h1, h2⟩ := List.cons.inj h
    have hwd : widthL vs = w.toNat := by
      have := widthL_62 vs hv62
      rw [← h1]; simp; omega
    refine ⟨hwd, ?_⟩
    rw [hwd, hvl] at h2
    have h3 := congrArg leNum h2
    rw [leNum_bytesL _ _ (num_size n w.toNat _ (by have := numL_lt w.toNat vs hvt; rwa [hvl] at this)), hM] at h3
    exact h3

theorem rawBlock_some {bs : List UInt8} {n : Nat} {vs : List Nat} {s : Nat} (h : rawBlock bs n = some (vs, s)) :
    vs.length = n ∧ nums62 vs ∧ 1 ≤ s ∧ s ≤ bs.length ∧ ∃ w t, bs = w :: t ∧ w.toNat ≤ 62 ∧ s = 1 + sizeL n w.toNat := by
  cases bs with
  | nil => cases h
  | cons w t =>
    simp only [rawBlock] at h
    split at h
    · cases h
    · split at h
      · cases h
      · simp only [Option.some.injEq, Prod.mk.injEq] at h
        obtain ⟨rfl, rfl⟩ := h
        exact ⟨takeN_length _ _ _, takeN_62 _ _ _ (by omega), by omega, by simp; omega, w, t, rfl, by omega, rfl⟩
theorem readBlock_block (vs : List Nat) (rest : List UInt8) (h : nums62 vs) : readBlock (blockL vs ++ rest) vs.length = some (vs, (blockL vs).length) := by
  have hw := widthL_62 vs h
  have hlt := widthL_lt vs h
  have hraw : rawBlock (blockL vs ++ rest) vs.length = some (vs, (blockL vs).length) := by
    rw [blockL_length]
    simp only [blockL, List.cons_append, rawBlock]
    rw [ofNat_toNat _ (by omega), if_neg (by omega), if_neg (by simp [bytesL_length])]
    have e : (bytesL (sizeL vs.length (widthL vs)) (numL (widthL vs) vs) ++ rest).take (sizeL vs.length (widthL vs)) = bytesL (sizeL vs.length (widthL vs)) (numL (widthL vs) vs) := by
      rw [List.take_append, bytesL_length, Nat.sub_self, List.take_zero, List.append_nil, List.take_of_length_le (by rw [bytesL_length]; omega)]
    rw [e, leNum_bytesL _ _ (num_size _ _ _ (numL_lt _ vs hlt)), takeN_num _ vs hlt]
  rw [readBlock, hraw]
  simp

def unpackGo (bs : List UInt8) (c : Nat) : Option (List Nat × Nat) :=
  if c = 0 then some ([], 0) else
  match readBlock bs (min c 128) with
  | none => none
  | some (vs, s) => match unpackGo (bs.drop s) (c - min c 128) with
    | none => none
    | some (us, r) => some (vs ++ us, s + r)
termination_by c
decreasing_by omega
def rawGo (bs : List UInt8) (c : Nat) : Option (List Nat × Nat) :=
  if c = 0 then some ([], 0) else
  match rawBlock bs (min c 128) with
  | none => none
  | some (vs, s) => match rawGo (bs.drop s) (c - min c 128) with
    | none => none
    | some (us, r) => some (vs ++ us, s + r)
termination_by c
decreasing_by omega
theorem unpackGo_zero (bs : List UInt8) : unpackGo bs 0 = some ([], 0) := by rw [unpackGo]; simp
theorem rawGo_zero (bs : List UInt8) : rawGo bs 0 = some ([], 0) := by rw [rawGo]; simp
theorem unpackGo_step (bs : List UInt8) (c : Nat) (h : c ≠ 0) : unpackGo bs c = match readBlock bs (min c 128) with
  | none => none
  | some (vs, s) => match unpackGo (bs.drop s) (c - min c 128) with
    | none => none
    | some (us, r) => some (vs ++ us, s + r) := by rw [unpackGo, if_neg h]
theorem rawGo_step (bs : List UInt8) (c : Nat) (h : c ≠ 0) : rawGo bs c = match rawBlock bs (min c 128) with
  | none => none
  | some (vs, s) => match rawGo (bs.drop s) (c - min c 128) with
    | none => none
    | some (us, r) => some (vs ++ us, s + r) := by rw [rawGo, if_neg h]

theorem rawGo_some (c : Nat) : ∀ (bs : List UInt8) (vs : List Nat) (s : Nat), rawGo bs c = some (vs, s) → vs.length = c ∧ nums62 vs ∧ s ≤ bs.length := by
  induction c using Nat.strongRecOn with
  | _ c ih =>
    intro bs vs s h
    by_cases hc : c = 0
    · subst hc; rw [rawGo_zero] at h; cases h; exact ⟨rfl, fun v hv => by simp at hv, by omega⟩
    · rw [rawGo_step bs c hc] at h
      cases hr : rawBlock bs (min c 128) with
      | none => rw [hr] at h; cases h
      | some p =>
        obtain ⟨us, r⟩ := p
        rw [hr] at h
        simp only at h
        obtain ⟨h1, h2, h3, h4, _⟩ := rawBlock_some hr
        cases hg : rawGo (bs.drop r) (c - min c 128) with
        | none => rw [hg] at h; cases h
        | some q =>
          obtain ⟨ts, r2⟩ := q
          rw [hg] at h
          simp only [Option.some.injEq, Prod.mk.injEq] at h
          obtain ⟨rfl, rfl⟩ := h
          obtain ⟨g1, g2, g3⟩ := ih _ (by omega) _ _ _ hg
          rw [List.length_drop] at g3
          refine ⟨by rw [List.length_append]; omega, fun v hv => ?_, by omega⟩
          rcases List.mem_append.1 hv with hv | hv
          · exact h2 v hv
          · exact g2 v hv

theorem unpack_raw (c : Nat) : ∀ (bs : List UInt8), unpackGo bs c = match rawGo bs c with
    | none => none
    | some (vs, s) => if packGo vs = bs.take s then some (vs, s) else none := by
  induction c using Nat.strongRecOn with
  | _ c ih =>
    intro bs
    by_cases hc : c = 0
    · subst hc; rw [unpackGo_zero, rawGo_zero]; simp [packGo_nil]
    · rw [unpackGo_step bs c hc, rawGo_step bs c hc, readBlock]
      cases hr : rawBlock bs (min c 128) with
      | none => rfl
      | some p =>
        obtain ⟨us, r⟩ := p
        obtain ⟨h1, h2, h3, h4, w, t, hbs, hw, hs⟩ := rawBlock_some hr
        simp only
        have ihx := ih (c - min c 128) (by omega) (bs.drop r)
        cases hg : rawGo (bs.drop r) (c - min c 128) with
        | none =>
          rw [hg] at ihx
          simp only at ihx
          by_cases hb : blockL us = bs.take r
          · rw [if_pos hb]; simp only [ihx]
          · rw [if_neg hb]
        | some q =>
          obtain ⟨ts, r2⟩ := q
          rw [hg] at ihx
          simp only at ihx
          obtain ⟨g1, g2, g3⟩ := rawGo_some _ _ _ _ hg
          have hpk : packGo (us ++ ts) = blockL us ++ packGo ts := packGo_app us ts (by omega) (by
            by_cases hcc : 128 ≤ c
            · exact Or.inl (by omega)
            · exact Or.inr ⟨by omega, List.length_eq_zero_iff.1 (by omega)⟩)
          have htk : bs.take (r + r2) = bs.take r ++ (bs.drop r).take r2 := by rw [List.take_add]
          simp only [hpk, htk]
          by_cases hb : blockL us = bs.take r
          · rw [if_pos hb]
            simp only [ihx]
            rw [hb]
            simp only [List.append_cancel_left_eq]
            by_cases hp : packGo ts = (bs.drop r).take r2
            · rw [if_pos hp, if_pos hp]
            · rw [if_neg hp, if_neg hp]
          · rw [if_neg hb, if_neg]
            intro hh
            apply hb
            have hhead : UInt8.ofNat (widthL us) = w := by
              have e : bs.take r = w :: t.take (sizeL (min c 128) w.toNat) := by rw [hs, hbs, Nat.add_comm, List.take_succ_cons]
              rw [e, blockL] at hh
              simp only [List.cons_append] at hh
              exact (List.cons.inj hh).1
            have hwd : widthL us = w.toNat := by have := widthL_62 us h2; rw [← hhead]; simp; omega
            exact (List.append_inj hh (by rw [blockL_length, List.length_take, hwd, h1]; omega)).1

theorem unpackGo_pack (m : Nat) : ∀ (vs : List Nat) (rest : List UInt8), vs.length = m → nums62 vs → unpackGo (packGo vs ++ rest) m = some (vs, (packGo vs).length) := by
  induction m using Nat.strongRecOn with
  | _ m ih =>
    intro vs rest hl h
    by_cases hm : m = 0
    · subst hm
      have : vs = [] := List.length_eq_zero_iff.1 hl
      subst this
      rw [unpackGo_zero, packGo_nil]; rfl
    · have e1 : (vs.take 128).length = min m 128 := by rw [List.length_take]; omega
      have hb := readBlock_block (vs.take 128) (packGo (vs.drop 128) ++ rest) (fun v hv => h v (List.mem_of_mem_take hv))
      rw [e1] at hb
      rw [unpackGo_step _ _ hm, packGo_step vs (by omega), List.append_assoc, hb]
      simp only
      rw [List.drop_left, ih (m - min m 128) (by omega) (vs.drop 128) rest (by rw [List.length_drop]; omega) (fun v hv => h v (List.mem_of_mem_drop hv))]
      simp

def unpackL (bs : List UInt8) : Option (List Nat × Nat) :=
  match getL bs with
  | none => none
  | some (c, s) => if 4096 < c then none else
    match unpackGo (bs.drop s) c with
    | none => none
    | some (vs, r) => some (vs, s + r)
def rawL (bs : List UInt8) : Option (List Nat × Nat) :=
  match getL bs with
  | none => none
  | some (c, s) => if 4096 < c then none else
    match rawGo (bs.drop s) c with
    | none => none
    | some (vs, r) => some (vs, s + r)
theorem rawL_some {bs : List UInt8} {vs : List Nat} {s : Nat} (h : rawL bs = some (vs, s)) : vs.length ≤ 4096 ∧ nums62 vs ∧ s ≤ bs.length ∧ 1 ≤ s := by
  unfold rawL at h
  cases hg : getL bs with
  | none => rw [hg] at h; cases h
  | some p =>
    obtain ⟨c, s0⟩ := p
    rw [hg] at h
    simp only at h
    have := getL_le hg
    split at h
    · cases h
    · cases hr : rawGo (bs.drop s0) c with
      | none => rw [hr] at h; cases h
      | some q =>
        obtain ⟨ts, r⟩ := q
        rw [hr] at h
        simp only [Option.some.injEq, Prod.mk.injEq] at h
        obtain ⟨rfl, rfl⟩ := h
        obtain ⟨g1, g2, g3⟩ := rawGo_some _ _ _ _ hr
        rw [List.length_drop] at g3
        exact ⟨by omega, g2, by omega, by omega⟩
theorem unpackL_raw (bs : List UInt8) : unpackL bs = match rawL bs with
    | none => none
    | some (vs, s) => if packL vs = bs.take s then some (vs, s) else none := by
  unfold unpackL rawL
  cases hg : getL bs with
  | none => rfl
  | some p =>
    obtain ⟨c, s⟩ := p
    simp only
    by_cases hc : 4096 < c
    · rw [if_pos hc, if_pos hc]
    · rw [if_neg hc, if_neg hc, unpack_raw c (bs.drop s)]
      cases hr : rawGo (bs.drop s) c with
      | none => rfl
      | some q =>
        obtain ⟨vs, r⟩ := q
        obtain ⟨h1, h2, h3⟩ := getL_inv hg
        obtain ⟨g1, g2, g3⟩ := rawGo_some _ _ _ _ hr
        simp only
        have e : bs.take (s + r) = putL c ++ (bs.drop s).take r := by rw [List.take_add, h1]
        simp only [e, packL, g1, List.append_cancel_left_eq]
        by_cases hp : packGo vs = (bs.drop s).take r
        · rw [if_pos hp, if_pos hp]
        · rw [if_neg hp, if_neg hp]
theorem unpackL_pack (vs : List Nat) (rest : List UInt8) (hl : vs.length ≤ 4096) (h : nums62 vs) : unpackL (packL vs ++ rest) = some (vs, (packL vs).length) := by
  unfold unpackL packL
  rw [List.append_assoc, getL_put _ _ (by omega)]
  simp only
  rw [if_neg (by omega), List.drop_left, unpackGo_pack vs.length vs rest rfl h]
  simp
theorem unpackL_some {bs : List UInt8} {vs : List Nat} {s : Nat} (h : unpackL bs = some (vs, s)) : packL vs = bs.take s ∧ vs.length ≤ 4096 ∧ nums62 vs ∧ s ≤ bs.length := by
  rw [unpackL_raw] at h
  cases hr : rawL bs with
  | none => rw [hr] at h; cases h
  | some p =>
    obtain ⟨us, r⟩ := p
    rw [hr] at h
    simp only at h
    split at h
    · rename_i hp
      simp only [Option.some.injEq, Prod.mk.injEq] at h
      obtain ⟨rfl, rfl⟩ := h
      obtain ⟨g1, g2, g3, _⟩ := rawL_some hr
      exact ⟨hp, g1, g2, g3⟩
    · cases h

/-- The list that bytes are packed of; none: nothing is packed so. -/
def unAll (bs : List UInt8) : Option (List Nat) :=
  match unpackL bs with
  | none => none
  | some (vs, s) => if s = bs.length then some vs else none
theorem unAll_pack (vs : List Nat) (hl : vs.length ≤ 4096) (h : nums62 vs) : unAll (packL vs) = some vs := by
  have := unpackL_pack vs [] hl h
  rw [List.append_nil] at this
  simp [unAll, this]
theorem unAll_some {bs : List UInt8} {vs : List Nat} (h : unAll bs = some vs) : packL vs = bs ∧ vs.length ≤ 4096 ∧ nums62 vs := by
  unfold unAll at h
  cases hu : unpackL bs with
  | none => rw [hu] at h; cases h
  | some p =>
    obtain ⟨us, s⟩ := p
    rw [hu] at h
    simp only at h
    split at h
    · rename_i hs
      cases h
      obtain ⟨h1, h2, h3, _⟩ := unpackL_some hu
      rw [hs, List.take_length] at h1
      exact ⟨h1, h2, h3⟩
    · cases h
theorem unAll_much (vs : List Nat) (b : UInt8) (hl : vs.length ≤ 4096) (h : nums62 vs) : unAll (packL vs ++ [b]) = none := by
  rw [unAll, unpackL_pack vs [b] hl h]
  simp
theorem unAll_less (vs : List Nat) (hl : vs.length ≤ 4096) (h : nums62 vs) : unAll ((packL vs).take ((packL vs).length - 1)) = none := by
  cases hu : unAll ((packL vs).take ((packL vs).length - 1)) with
  | none => rfl
  | some us =>
    exfalso
    obtain ⟨h1, h2, h3⟩ := unAll_some hu
    have hp : 1 ≤ (packL vs).length := by have := putL_pos vs.length; rw [packL, List.length_append]; omega
    have e : packL vs = packL us ++ (packL vs).drop ((packL vs).length - 1) := by rw [h1, List.take_append_drop]
    have a := unAll_pack vs hl h
    have b := unpackL_pack us ((packL vs).drop ((packL vs).length - 1)) h2 h3
    rw [← e] at b
    have l1 : (packL us).length = (packL vs).length - 1 := by rw [h1, List.length_take]; omega
    rw [unAll, b] at a
    simp only at a
    rw [if_neg (by omega)] at a
    cases a

/-! Rising lists. -/
def gapsG (nx : Nat) : List Nat → List Nat
  | [] => []
  | v :: t => (v - nx) :: gapsG (v + 1) t
def riseG (nx : Nat) : List Nat → Bool
  | [] => true
  | v :: t => decide (nx ≤ v) && riseG (v + 1) t
def unriseG (nx : Nat) : List Nat → Option (List Nat)
  | [] => some []
  | g :: t => if 4611686018427387903 < nx + g then none else
    match unriseG (nx + g + 1) t with
    | none => none
    | some us => some ((nx + g) :: us)
theorem gapsG_length (l : List Nat) : ∀ nx, (gapsG nx l).length = l.length := by
  induction l with
  | nil => intro nx; rfl
  | cons v t ih => intro nx; simp [gapsG, ih]
theorem gapsG_62 (l : List Nat) : ∀ nx, nums62 l → nums62 (gapsG nx l) := by
  induction l with
  | nil => intro nx h v hv; simp [gapsG] at hv
  | cons v t ih =>
    intro nx h u hu
    simp only [gapsG, List.mem_cons] at hu
    rcases hu with rfl | hu
    · have := h v (by simp); omega
    · exact ih (v + 1) (fun x hx => h x (by simp [hx])) u hu
theorem unrise_gaps (l : List Nat) : ∀ nx, nums62 l → riseG nx l = true → unriseG nx (gapsG nx l) = some l := by
  induction l with
  | nil => intro nx h hr; rfl
  | cons v t ih =>
    intro nx h hr
    simp only [riseG, Bool.and_eq_true, decide_eq_true_eq] at hr
    have hv := h v (by simp)
    simp only [gapsG, unriseG]
    have e : nx + (v - nx) = v := by omega
    rw [e, if_neg (by omega), ih (v + 1) (fun x hx => h x (by simp [hx])) hr.2]
theorem unriseG_length (l : List Nat) : ∀ nx us, unriseG nx l = some us → us.length = l.length := by
  induction l with
  | nil => intro nx us h; cases h; rfl
  | cons g t ih =>
    intro nx us h
    simp only [unriseG] at h
    split at h
    · cases h
    · cases hu : unriseG (nx + g + 1) t with
      | none => rw [hu] at h; cases h
      | some ts => rw [hu] at h; cases h; simp [ih _ _ hu]
end Go.Proofs.Ytibomnmgiimejad
