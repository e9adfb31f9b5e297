import Derived.Test.YtcnjmjcbhelkhaaMergeHitsJ01
namespace Go.Proofs.Ytcnjmjcbhelkhaa
open Go
set_option linter.unusedVariables false

/-! Sets of texts, in order; what stands behind a byte. -/
abbrev Tx := List UInt8
def ltT : Tx → Tx → Bool
  | _, [] => false
  | [], _ :: _ => true
  | a :: s, b :: t => decide (a.toNat < b.toNat) || (a == b && ltT s t)
theorem ltT_cons (a b : UInt8) (s t : Tx) : ltT (a :: s) (b :: t) = true ↔ a.toNat < b.toNat ∨ (a = b ∧ ltT s t = true) := by
  simp [ltT]
theorem ltT_irr : ∀ s : Tx, ltT s s = false
  | [] => rfl
  | a :: s => by simp [ltT, ltT_irr s]
theorem ltT_trans : ∀ {a b c : Tx}, ltT a b = true → ltT b c = true → ltT a c = true
  | a, b, [], _, h => by cases b <;> simp [ltT] at h
  | [], b, c :: cs, h, _ => rfl
  | a :: aq, [], c :: cs, h, _ => by simp [ltT] at h
  | a :: aq, b :: bs, c :: cs, h1, h2 => by
    rw [ltT_cons] at *
    rcases h1 with h1 | ⟨rfl, h1⟩
    · rcases h2 with h2 | ⟨rfl, _⟩
      · exact Or.inl (by omega)
      · exact Or.inl h1
    · rcases h2 with h2 | ⟨rfl, h2⟩
      · exact Or.inl h2
      · exact Or.inr ⟨rfl, ltT_trans h1 h2⟩
end Go.Proofs.Ytcnjmjcbhelkhaa

namespace Go.Proofs.Ytcnjmjcbhelkhaa
open Go
set_option linter.unusedVariables false

/-! Words with their changes, in order. -/
theorem ltT_asym (s t : Tx) (h : ltT s t = true) : ltT t s = false := by
  cases e : ltT t s with
  | false => rfl
  | true => have := ltT_trans h e; rw [ltT_irr] at this; cases this
theorem ltT_tri : ∀ s t : Tx, ltT s t = false → ltT t s = false → s = t
  | [], [], _, _ => rfl
  | [], b :: t, h, _ => by simp [ltT] at h
  | a :: s, [], _, h => by simp [ltT] at h
  | a :: s, b :: t, h1, h2 => by
    have n1 : ¬ (a.toNat < b.toNat ∨ (a = b ∧ ltT s t = true)) := fun h => by rw [← ltT_cons] at h; rw [h] at h1; cases h1
    have n2 : ¬ (b.toNat < a.toNat ∨ (b = a ∧ ltT t s = true)) := fun h => by rw [← ltT_cons] at h; rw [h] at h2; cases h2
    have e : a = b := UInt8.toNat_inj.1 (by omega)
    subst e
    have e1 : ltT s t = false := by cases e : ltT s t with
      | false => rfl
      | true => exact absurd (Or.inr ⟨rfl, e⟩) n1
    have e2 : ltT t s = false := by cases e : ltT t s with
      | false => rfl
      | true => exact absurd (Or.inr ⟨rfl, e⟩) n2
    rw [ltT_tri s t e1 e2]
end Go.Proofs.Ytcnjmjcbhelkhaa

namespace Go.Proofs.Ytcnjmjcbhelkhaa
set_option linter.unusedVariables false
set_option linter.unusedSimpArgs false

/-! Hits in order, and lists of them merged, in plain words. -/
abbrev Fd := Tx × Int × List Int
def fd0 : Fd := ([], 0, [])
def noKey : Int := 1000000000001
def ciM (x y : Int) : Int := if x < y then -1 else if y < x then 1 else 0
def ctM (x y : Tx) : Int := if ltT x y = true then -1 else if ltT y x = true then 1 else 0
def lexM (x y : Int) : Int := if x ≠ 0 then x else y
structure CmpO {α : Type} (c : α → α → Int) : Prop where
  swap : ∀ a b, c b a = - c a b
  le : ∀ a b x, c a b ≤ 0 → c b x ≤ 0 → c a x ≤ 0
theorem CmpO.lt1 {α : Type} {c : α → α → Int} (h : CmpO c) {a b x : α} (h1 : c a b < 0) (h2 : c b x ≤ 0) : c a x < 0 := by
  have h3 := h.le a b x (by omega) h2
  by_cases e : c a x = 0
  · have h4 := h.swap a x
    have h5 := h.le b x a h2 (by omega)
    have h6 := h.swap a b
    omega
  · omega
theorem CmpO.lt2 {α : Type} {c : α → α → Int} (h : CmpO c) {a b x : α} (h1 : c a b ≤ 0) (h2 : c b x < 0) : c a x < 0 := by
  have h3 := h.le a b x h1 (by omega)
  by_cases e : c a x = 0
  · have h4 := h.swap a x
    have h5 := h.le x a b (by omega) h1
    have h6 := h.swap b x
    omega
  · omega
theorem CmpO.eq {α : Type} {c : α → α → Int} (h : CmpO c) {a b x : α} (h1 : c a b = 0) (h2 : c b x = 0) : c a x = 0 := by
  have h3 := h.le a b x (by omega) (by omega)
  have h4 := h.swap a b
  have h5 := h.swap b x
  have h6 := h.le x b a (by omega) (by omega)
  have h7 := h.swap a x
  omega
theorem CmpO.lex {α : Type} {c d : α → α → Int} (h : CmpO c) (k : CmpO d) : CmpO fun a b => lexM (c a b) (d a b) := by
  refine ⟨fun a b => ?_, fun a b x h1 h2 => ?_⟩
  · simp only [lexM]
    have h1 := h.swap a b
    have h2 := k.swap a b
    split <;> split <;> omega
  · simp only [lexM] at h1 h2 ⊢
    by_cases e1 : c a b = 0
    · rw [if_neg (by omega)] at h1
      by_cases e2 : c b x = 0
      · rw [if_neg (by omega)] at h2
        rw [if_neg (by have := h.eq e1 e2; omega)]
        exact k.le a b x h1 h2
      · rw [if_pos e2] at h2
        have := h.lt2 (a := a) (b := b) (x := x) (by omega) (by omega)
        rw [if_pos (by omega)]
        omega
    · rw [if_pos e1] at h1
      have hbx : c b x ≤ 0 := by
        by_cases e2 : c b x = 0
        · omega
        · rw [if_pos e2] at h2; exact h2
      have := h.lt1 (a := a) (b := b) (x := x) (by omega) hbx
      rw [if_pos (by omega)]
      omega
theorem CmpO.map {α β : Type} {c : α → α → Int} (h : CmpO c) (f : β → α) : CmpO fun a b => c (f a) (f b) := ⟨fun a b => h.swap _ _, fun a b x => h.le _ _ _⟩
theorem CmpO.flip {α : Type} {c : α → α → Int} (h : CmpO c) : CmpO fun a b => c b a := ⟨fun a b => h.swap _ _, fun a b x h1 h2 => h.le x b a h2 h1⟩
theorem ciM_o : CmpO ciM := by
  refine ⟨fun a b => ?_, fun a b x => ?_⟩
  · simp only [ciM]; split <;> split <;> first | omega | (split <;> omega) | rfl
  · simp only [ciM]; intro h1 h2
    split at h1
    · split at h2
      · rw [if_pos (by omega)]; omega
      · split at h2
        · omega
        · rw [if_pos (by omega)]; omega
    · split at h1
      · omega
      · split at h2
        · rw [if_pos (by omega)]; omega
        · split at h2
          · omega
          · rw [if_neg (by omega), if_neg (by omega)]; omega
theorem ciM_zero {a b : Int} : ciM a b = 0 ↔ a = b := by
  simp only [ciM]
  split
  · omega
  · split <;> omega
theorem ctM_le {x y : Tx} : ctM x y ≤ 0 ↔ ltT y x = false := by
  simp only [ctM]
  by_cases h : ltT x y = true
  · rw [if_pos h]
    exact ⟨fun _ => ltT_asym _ _ h, fun _ => by omega⟩
  · rw [if_neg h]
    by_cases h2 : ltT y x = true
    · rw [if_pos h2, h2]; simp
    · rw [if_neg h2]; simp at h2; simp [h2]
theorem ltT_nM {x y z : Tx} (h1 : ltT y x = false) (h2 : ltT z y = false) : ltT z x = false := by
  cases e : ltT z x with
  | false => rfl
  | true =>
    cases e2 : ltT x y with
    | true => rw [ltT_trans e e2] at h2; exact h2
    | false => rw [ltT_tri x y e2 h1] at e; rw [e] at h2; exact h2
theorem ctM_o : CmpO ctM := by
  refine ⟨fun a b => ?_, fun a b x h1 h2 => ?_⟩
  · simp only [ctM]
    by_cases h : ltT a b = true
    · rw [if_neg (by rw [ltT_asym _ _ h]; simp), if_pos h, if_pos h]; rfl
    · rw [if_neg h, if_neg h]
      by_cases h2 : ltT b a = true
      · rw [if_pos h2, if_pos h2]
      · rw [if_neg h2, if_neg h2]; rfl
  · rw [ctM_le] at h1 h2 ⊢
    exact ltT_nM h1 h2
def kcM (d : Bool) (x y : Int) : Int := if x = y then 0 else if x = noKey then 1 else if y = noKey then -1 else if d = true then ciM y x else ciM x y
theorem kcM_le (d : Bool) (x y : Int) : kcM d x y ≤ 0 ↔ x = y ∨ (x ≠ noKey ∧ (y = noKey ∨ (if d = true then y ≤ x else x ≤ y))) := by
  unfold kcM
  by_cases h1 : x = y
  · simp [h1]
  · rw [if_neg h1]
    by_cases h2 : x = noKey
    · simp [h2, h1]; intro h; exact absurd (h2.trans h) h1
    · rw [if_neg h2]
      by_cases h3 : y = noKey
      · simp [h3, h2]
      · rw [if_neg h3]
        cases d
        · simp only [Bool.false_eq_true, if_false, ciM]
          split
          · simp [h2]; omega
          · split
            · simp [h1, h3]; omega
            · omega
        · simp only [if_true, ciM]
          split
          · simp [h2]; omega
          · split
            · simp [h1, h3]; omega
            · omega
theorem kcM_o (d : Bool) : CmpO (kcM d) := by
  refine ⟨fun a b => ?_, fun a b x h1 h2 => ?_⟩
  · unfold kcM
    by_cases h1 : a = b
    · simp [h1]
    · rw [if_neg h1, if_neg (fun e => h1 e.symm)]
      by_cases h2 : a = noKey
      · rw [if_pos h2, if_pos h2, if_neg (fun e => h1 (h2.trans e.symm))]
      · rw [if_neg h2, if_neg h2]
        by_cases h3 : b = noKey
        · rw [if_pos h3, if_pos h3]; rfl
        · rw [if_neg h3, if_neg h3]
          cases d
          · exact ciM_o.swap _ _
          · exact ciM_o.swap _ _
  · rw [kcM_le] at h1 h2 ⊢
    rcases h1 with rfl | ⟨h1, h3⟩
    · exact h2
    · rcases h2 with rfl | ⟨h2, h4⟩
      · exact Or.inr ⟨h1, h3⟩
      · rcases h3 with h3 | h3
        · exact absurd h3 h2
        · rcases h4 with h4 | h4
          · exact Or.inr ⟨h1, Or.inl h4⟩
          · refine Or.inr ⟨h1, Or.inr ?_⟩
            cases d
            · simp at h3 h4 ⊢; omega
            · simp at h3 h4 ⊢; omega
/-- Keys, one behind the other. -/
def ksM : List Bool → List Int → List Int → Int
  | [], _, _ => 0
  | d :: ds, x, y => lexM (kcM d (x.headD 0) (y.headD 0)) (ksM ds x.tail y.tail)
theorem ksM_o : ∀ ds, CmpO (ksM ds)
  | [] => ⟨fun _ _ => rfl, fun _ _ _ _ _ => by simp [ksM]⟩
  | d :: ds => by
    have h := (CmpO.map (kcM_o d) (fun x : List Int => x.headD 0)).lex (CmpO.map (ksM_o ds) (fun x : List Int => x.tail))
    exact h
/-- Two hits. -/
def hcM (a b : Fd) : Int := lexM (ciM b.2.1 a.2.1) (ctM a.1 b.1)
def fcM (ds : List Bool) (a b : Fd) : Int := lexM (ksM ds a.2.2 b.2.2) (hcM a b)
theorem hcM_o : CmpO hcM := (CmpO.map ciM_o.flip (fun a : Fd => a.2.1)).lex (CmpO.map ctM_o (fun a : Fd => a.1))
theorem fcM_o (ds : List Bool) : CmpO (fcM ds) := (CmpO.map (ksM_o ds) (fun a : Fd => a.2.2)).lex hcM_o
/-- Of two places the one whose hit waits behind the other's: told by backwards. -/
def bkM (ds : List Bool) (hit : Nat → Fd) (a b : Nat) : Int := lexM (fcM ds (hit b) (hit a)) (ciM (b : Int) (a : Int))
def gtM (ds : List Bool) (hit : Nat → Fd) (a b : Nat) : Bool := decide (bkM ds hit a b > 0)
theorem bkM_o (ds : List Bool) (hit : Nat → Fd) : CmpO (bkM ds hit) := (CmpO.map (fcM_o ds) hit).flip.lex (CmpO.map ciM_o (fun a : Nat => (a : Int))).flip
theorem gtM_ord (ds : List Bool) (hit : Nat → Fd) : Ord (gtM ds hit) := by
  have o := bkM_o ds hit
  refine ⟨fun a b h => ?_, fun a b c h1 h2 => ?_, fun a b h1 h2 => ?_⟩
  · simp only [gtM, decide_eq_true_eq, decide_eq_false_iff_not] at h ⊢
    have := o.swap a b; omega
  · simp only [gtM, decide_eq_false_iff_not] at h1 h2 ⊢
    have := o.le a b c (by omega) (by omega); omega
  · simp only [gtM, decide_eq_false_iff_not] at h1 h2
    have h3 := o.swap a b
    have h4 : bkM ds hit a b = 0 := by omega
    unfold bkM lexM at h4
    split at h4
    · omega
    · have := ciM_zero.1 h4; omega
/-- The list whose hit is told next. -/
def hitM (L : List (List Fd)) (i : Nat) : Fd := (L.getD i []).headD fd0
def BestM (ds : List Bool) (L : List (List Fd)) (k b : Nat) : Prop := b < k ∧ L.getD b [] ≠ [] ∧ ∀ i, i < k → L.getD i [] ≠ [] → gtM ds (hitM L) i b = false
theorem BestM.uniq {ds : List Bool} {L : List (List Fd)} {k a b : Nat} (h : BestM ds L k a) (h' : BestM ds L k b) : a = b :=
  (gtM_ord ds (hitM L)).anti a b (h'.2.2 a h.1 h.2.1) (h.2.2 b h'.1 h'.2.1)
/-- The scan's step. -/
theorem BestM.skip {ds : List Bool} {L : List (List Fd)} {k b : Nat} (h : BestM ds L k b) (hk : L.getD k [] ≠ [] → ¬ fcM ds (hitM L k) (hitM L b) < 0) : BestM ds L (k + 1) b := by
  obtain ⟨h1, h2, h3⟩ := h
  refine ⟨by omega, h2, fun i hi hne => ?_⟩
  by_cases e : i = k
  · subst e
    have h4 := hk hne
    unfold gtM
    rw [decide_eq_false_iff_not]
    unfold bkM lexM
    have h5 := (fcM_o ds).swap (hitM L i) (hitM L b)
    split
    · omega
    · unfold ciM; rw [if_pos (by omega)]; omega
  · exact h3 i (by omega) hne
theorem BestM.take {ds : List Bool} {L : List (List Fd)} {k b : Nat} (h : BestM ds L k b) (hne : L.getD k [] ≠ []) (hk : fcM ds (hitM L k) (hitM L b) < 0) : BestM ds L (k + 1) k := by
  obtain ⟨h1, h2, h3⟩ := h
  have hg : gtM ds (hitM L) k b = true := by
    unfold gtM
    rw [decide_eq_true_eq]
    unfold bkM lexM
    have h5 := (fcM_o ds).swap (hitM L k) (hitM L b)
    rw [if_pos (by omega)]; omega
  refine ⟨by omega, hne, fun i hi hi2 => ?_⟩
  by_cases e : i = k
  · subst e; exact (gtM_ord ds (hitM L)).irr _
  · exact (gtM_ord ds (hitM L)).push (h3 i (by omega) hi2) hg
theorem BestM.first {ds : List Bool} {L : List (List Fd)} {k : Nat} (h : ∀ i, i < k → L.getD i [] = []) (hne : L.getD k [] ≠ []) : BestM ds L (k + 1) k :=
  ⟨by omega, hne, fun i hi hi2 => by
    by_cases e : i = k
    · subst e; exact (gtM_ord ds (hitM L)).irr _
    · exact absurd (h i (by omega)) hi2⟩
open Classical in
/-- The first hits of lists that are merged. -/
noncomputable def mrgM (ds : List Bool) : Nat → List (List Fd) → List Fd
  | 0, _ => []
  | n + 1, L => if h : ∃ b, BestM ds L L.length b then hitM L h.choose :: mrgM ds n (L.set h.choose (L.getD h.choose []).tail) else []
theorem mrgM_step {ds : List Bool} {n b : Nat} {L : List (List Fd)} (h : BestM ds L L.length b) : mrgM ds (n + 1) L = hitM L b :: mrgM ds n (L.set b (L.getD b []).tail) := by
  have hx : ∃ b, BestM ds L L.length b := ⟨b, h⟩
  have e : hx.choose = b := hx.choose_spec.uniq h
  rw [mrgM, dif_pos hx, e]
theorem mrgM_none {ds : List Bool} {n : Nat} {L : List (List Fd)} (h : ∀ i, i < L.length → L.getD i [] = []) : mrgM ds n L = [] := by
  cases n with
  | zero => rfl
  | succ n => rw [mrgM, dif_neg (fun ⟨b, h1, h2, _⟩ => h2 (h b h1))]
/-- What is told. -/
def oddK (m : Nat) (L : List (List Fd)) : Bool := L.any fun l => l.any fun f => decide (f.2.2.length ≠ m)
def badS (ds : List Bool) (l : List Fd) : Bool := (List.range (l.length - 1)).any fun i => decide (fcM ds (l.getD (i + 1) fd0) (l.getD i fd0) < 0)
noncomputable def mhC (ds : List Bool) (L : List (List Fd)) (size : Int) : Int :=
  if L.length > 16 then 11 else if (L.any fun l => decide (l.length > 4096)) = true then 2 else if size < 0 ∨ size > 1000 ∨ ds.length > 4 ∨ oddK ds.length L = true then 12 else if (L.any (badS ds)) = true then 17 else 0
noncomputable def mhL (ds : List Bool) (L : List (List Fd)) (size : Int) : List Fd := if mhC ds L size = 0 then mrgM ds size.toNat L else []
end Go.Proofs.Ytcnjmjcbhelkhaa
