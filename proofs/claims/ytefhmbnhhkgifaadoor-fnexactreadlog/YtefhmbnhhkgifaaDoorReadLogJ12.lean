import Derived.Test.YtefhmbnhhkgifaaDoorReadLogJ01
import Derived.Test.YtefhmbnhhkgifaaDoorReadLogJ11
namespace Go.Proofs.YtefhmbnhhkgifaaDoor
open Go
set_option linter.unusedVariables false

/-! What is read is just what was written: the bytes behind a reading are those of what was read. -/
theorem rdN_back {most : Nat} {bs : List UInt8} {v : Nat} {r : List UInt8} (h : rdN most bs = some (v, r)) : bs = putL v ++ r ∧ v ≤ most ∧ v < 4611686018427387904 := by
  unfold rdN at h
  cases hg : getL bs with
  | none => rw [hg] at h; simp at h
  | some p =>
    obtain ⟨v', s⟩ := p
    rw [hg] at h
    have hs := getL_inv hg
    simp only at h
    split at h
    · rename_i hle
      simp only [Option.some.injEq, Prod.mk.injEq] at h
      obtain ⟨rfl, rfl⟩ := h
      exact ⟨by rw [← hs.1, List.take_append_drop], hle, hs.2.1⟩
    · simp at h
theorem rdT_back {bs t r : List UInt8} (h : rdT bs = some (t, r)) : bs = txB t ++ r ∧ t.length ≤ 65536 := by
  unfold rdT at h
  cases hg : rdN 65536 bs with
  | none => rw [hg] at h; simp at h
  | some p =>
    obtain ⟨n, r'⟩ := p
    rw [hg] at h
    have hs := rdN_back hg
    simp only at h
    split at h
    · rename_i hle
      simp only [Option.some.injEq, Prod.mk.injEq] at h
      obtain ⟨rfl, rfl⟩ := h
      have hl : (r'.take n).length = n := by rw [List.length_take]; omega
      refine ⟨?_, by omega⟩
      rw [txB, hl, List.append_assoc, List.take_append_drop]
      exact hs.1
    · simp at h
theorem rdTs_back : ∀ (k : Nat) {bs : List UInt8} {ts : List (List UInt8)} {r : List UInt8}, rdTs k bs = some (ts, r) → bs = ts.flatMap txB ++ r ∧ ts.length = k ∧ ∀ t ∈ ts, t.length ≤ 65536
  | 0, bs, ts, r, h => by simp only [rdTs, Option.some.injEq, Prod.mk.injEq] at h; obtain ⟨rfl, rfl⟩ := h; simp
  | k + 1, bs, ts, r, h => by
    simp only [rdTs] at h
    cases h1 : rdT bs with
    | none => rw [h1] at h; simp at h
    | some p =>
      obtain ⟨t, r1⟩ := p
      rw [h1] at h
      simp only at h
      cases h2 : rdTs k r1 with
      | none => rw [h2] at h; simp at h
      | some q =>
        obtain ⟨ts', r2⟩ := q
        rw [h2] at h
        simp only [Option.some.injEq, Prod.mk.injEq] at h
        obtain ⟨rfl, rfl⟩ := h
        have a := rdT_back h1
        have b := rdTs_back k h2
        refine ⟨by rw [a.1, b.1]; simp, by simp [b.2.1], fun t' ht => ?_⟩
        rcases List.mem_cons.1 ht with rfl | ht
        · exact a.2
        · exact b.2.2 t' ht
theorem sgn_back {v : Nat} (h : v ≤ 2000000000000) : unS (sgn v) = v ∧ nuOK (sgn v) = true := by
  unfold sgn unS nuOK
  by_cases h1 : v % 2 = 1
  · simp only [h1, if_true]
    refine ⟨?_, decide_eq_true ?_⟩
    · rw [if_pos (by omega)]; omega
    · omega
  · simp only [h1, if_false]
    refine ⟨?_, decide_eq_true ?_⟩
    · rw [if_neg (by omega)]; omega
    · omega
theorem rdZs_back : ∀ (k : Nat) {bs : List UInt8} {zs : List Int} {r : List UInt8}, rdZs k bs = some (zs, r) → bs = zs.flatMap nuB ++ r ∧ zs.length = k ∧ ∀ z ∈ zs, nuOK z = true
  | 0, bs, zs, r, h => by simp only [rdZs, Option.some.injEq, Prod.mk.injEq] at h; obtain ⟨rfl, rfl⟩ := h; simp
  | k + 1, bs, zs, r, h => by
    simp only [rdZs] at h
    cases h1 : rdN 2000000000000 bs with
    | none => rw [h1] at h; simp at h
    | some p =>
      obtain ⟨v, r1⟩ := p
      rw [h1] at h
      simp only at h
      cases h2 : rdZs k r1 with
      | none => rw [h2] at h; simp at h
      | some q =>
        obtain ⟨zs', r2⟩ := q
        rw [h2] at h
        simp only [Option.some.injEq, Prod.mk.injEq] at h
        obtain ⟨rfl, rfl⟩ := h
        have a := rdN_back h1
        have b := rdZs_back k h2
        have c := sgn_back a.2.1
        refine ⟨by rw [a.1, b.1, List.flatMap_cons, nuB, c.1]; simp, by simp [b.2.1], fun t' ht => ?_⟩
        rcases List.mem_cons.1 ht with rfl | ht
        · exact c.2
        · exact b.2.2 t' ht
theorem rdV_back {bs r : List UInt8} {v : Vl} (h : rdV bs = some (v, r)) : bs = vlB v ++ r ∧ vlOK v = true := by
  unfold rdV at h
  cases h1 : rdT bs with
  | none => rw [h1] at h; simp at h
  | some p1 =>
    obtain ⟨f, r1⟩ := p1
    rw [h1] at h; simp only at h
    cases h2 : rdN 4096 r1 with
    | none => rw [h2] at h; simp at h
    | some p2 =>
      obtain ⟨n, r2⟩ := p2
      rw [h2] at h; simp only at h
      cases h3 : rdTs n r2 with
      | none => rw [h3] at h; simp at h
      | some p3 =>
        obtain ⟨tx, r3⟩ := p3
        rw [h3] at h; simp only at h
        cases h4 : rdN 4096 r3 with
        | none => rw [h4] at h; simp at h
        | some p4 =>
          obtain ⟨m, r4⟩ := p4
          rw [h4] at h; simp only at h
          cases h5 : rdZs m r4 with
          | none => rw [h5] at h; simp at h
          | some p5 =>
            obtain ⟨zs, r5⟩ := p5
            rw [h5] at h
            simp only [Option.some.injEq, Prod.mk.injEq] at h
            obtain ⟨rfl, rfl⟩ := h
            have a1 := rdT_back h1
            have a2 := rdN_back h2
            have a3 := rdTs_back n h3
            have a4 := rdN_back h4
            have a5 := rdZs_back m h5
            refine ⟨?_, ?_⟩
            · rw [a1.1, a2.1, a3.1, a4.1, a5.1]
              simp [vlB, a3.2.1, a5.2.1]
            · simp only [vlOK, Bool.and_eq_true, decide_eq_true_eq, List.all_eq_true, txOK]
              exact ⟨⟨⟨a1.2, by omega, by omega⟩, fun t ht => a3.2.2 t ht⟩, fun z hz => a5.2.2 z hz⟩
theorem rdVs_back : ∀ (k : Nat) {bs r : List UInt8} {V : List Vl}, rdVs k bs = some (V, r) → bs = V.flatMap vlB ++ r ∧ V.length = k ∧ ∀ v ∈ V, vlOK v = true
  | 0, bs, r, V, h => by simp only [rdVs, Option.some.injEq, Prod.mk.injEq] at h; obtain ⟨rfl, rfl⟩ := h; simp
  | k + 1, bs, r, V, h => by
    simp only [rdVs] at h
    cases h1 : rdV bs with
    | none => rw [h1] at h; simp at h
    | some p =>
      obtain ⟨v, r1⟩ := p
      rw [h1] at h
      simp only at h
      cases h2 : rdVs k r1 with
      | none => rw [h2] at h; simp at h
      | some q =>
        obtain ⟨vs', r2⟩ := q
        rw [h2] at h
        simp only [Option.some.injEq, Prod.mk.injEq] at h
        obtain ⟨rfl, rfl⟩ := h
        have a := rdV_back h1
        have b := rdVs_back k h2
        refine ⟨by rw [a.1, b.1]; simp, by simp [b.2.1], fun t' ht => ?_⟩
        rcases List.mem_cons.1 ht with rfl | ht
        · exact a.2
        · exact b.2.2 t' ht
theorem rdD_back {bs r : List UInt8} {d : Dc} (h : rdD bs = some (d, r)) : bs = dcB d ++ r ∧ dcOK d = true := by
  unfold rdD at h
  cases h1 : rdT bs with
  | none => rw [h1] at h; simp at h
  | some p1 =>
    obtain ⟨i, r1⟩ := p1
    rw [h1] at h; simp only at h
    cases h2 : rdN 4096 r1 with
    | none => rw [h2] at h; simp at h
    | some p2 =>
      obtain ⟨n, r2⟩ := p2
      rw [h2] at h; simp only at h
      cases h3 : rdVs n r2 with
      | none => rw [h3] at h; simp at h
      | some p3 =>
        obtain ⟨V, r3⟩ := p3
        rw [h3] at h
        simp only [Option.some.injEq, Prod.mk.injEq] at h
        obtain ⟨rfl, rfl⟩ := h
        have a1 := rdT_back h1
        have a2 := rdN_back h2
        have a3 := rdVs_back n h3
        refine ⟨?_, ?_⟩
        · rw [a1.1, a2.1, a3.1]; simp [dcB, a3.2.1]
        · simp only [dcOK, Bool.and_eq_true, decide_eq_true_eq, List.all_eq_true]
          exact ⟨⟨a1.2, by omega⟩, a3.2.2⟩
theorem readO_back {bs : List UInt8} {d : Dc} (h : readO bs = some d) : dcB d = bs ∧ dcOK d = true := by
  unfold readO at h
  split at h
  · rename_i d' hd
    simp only [Option.some.injEq] at h
    subst h
    have := rdD_back hd
    rw [List.append_nil] at this
    exact ⟨this.1.symm, this.2⟩
  · simp at h

/-! The next record of a log. -/
/-- The record that a part tells, if it is one. -/
def partR (p : List UInt8) : Option Rc := match p with
  | [] => none
  | k :: q => match getL q with
    | none => none
    | some (s, c) => if k.toNat = 1 then (match readO (q.drop c) with
        | none => none
        | some d => if rcOK (1, (s : Int), [], d) then some (1, (s : Int), [], d) else none)
      else if rcOK ((k.toNat : Int), (s : Int), q.drop c, ([], [])) then some ((k.toNat : Int), (s : Int), q.drop c, ([], [])) else none
/-- The record with which the bytes begin, and what is left. -/
def nextR (bs : List UInt8) (seq : Nat) : Option (Rc × List UInt8) := match rdN 1048576 bs with
  | none => none
  | some (n, r) => if n + 4 ≤ r.length ∧ four (sumL (r.take n)) = (r.drop n).take 4 then (match partR (r.take n) with
      | none => none
      | some x => if x.2.1 = (seq : Int) then some (x, r.drop (n + 4)) else none)
    else none
theorem nextR_len {bs r : List UInt8} {seq : Nat} {x : Rc} (h : nextR bs seq = some (x, r)) : r.length < bs.length := by
  unfold nextR at h
  cases h1 : rdN 1048576 bs with
  | none => rw [h1] at h; simp at h
  | some p =>
    obtain ⟨n, r1⟩ := p
    rw [h1] at h; simp only at h
    have := rdN_len h1
    split at h
    · split at h
      · simp at h
      · split at h
        · simp only [Option.some.injEq, Prod.mk.injEq] at h
          obtain ⟨_, rfl⟩ := h
          rw [List.length_drop]; omega
        · simp at h
    · simp at h
theorem partR_part {p : List UInt8} {x : Rc} (h : partR p = some x) : rcPart x = p ∧ rcOK x = true := by
  unfold partR at h
  split at h
  · simp at h
  · rename_i k q
    split at h
    · simp at h
    · rename_i s c hg
      have hi := getL_inv hg
      split at h
      · rename_i hk
        split at h
        · simp at h
        · rename_i d hd
          split at h
          · rename_i hok
            simp only [Option.some.injEq] at h
            subst h
            refine ⟨?_, hok⟩
            have e : UInt8.ofNat (1 : Int).toNat = k := by
              apply UInt8.toNat_inj.1
              rw [hk]; rfl
            simp only [rcPart, if_pos, (readO_back hd).1, e]
            rw [show ((s : Int)).toNat = s from rfl, ← hi.1, List.take_append_drop]
          · simp at h
      · rename_i hk
        split at h
        · rename_i hok
          simp only [Option.some.injEq] at h
          subst h
          refine ⟨?_, hok⟩
          have e : UInt8.ofNat ((k.toNat : Int)).toNat = k := by
            apply UInt8.toNat_inj.1
            simp
          have hk1 : ¬ ((k.toNat : Int) = 1) := by omega
          simp only [rcPart, if_neg hk1, e]
          rw [show ((s : Int)).toNat = s from rfl, ← hi.1, List.take_append_drop]
        · simp at h
/-- The records so far, k of them, and what is left. -/
def runK (bs : List UInt8) : Nat → Option (List Rc × List UInt8)
  | 0 => some ([], bs)
  | k + 1 => match runK bs k with
    | none => none
    | some (L, r) => match nextR r (L.length + 1) with
      | none => none
      | some (x, r') => some (L ++ [x], r')
theorem runK_len {bs : List UInt8} : ∀ (k : Nat) {L : List Rc} {r : List UInt8}, runK bs k = some (L, r) → L.length = k ∧ r.length + k ≤ bs.length ∧ ∃ p, bs = p ++ r
  | 0, L, r, h => by simp only [runK, Option.some.injEq, Prod.mk.injEq] at h; obtain ⟨rfl, rfl⟩ := h; exact ⟨rfl, by omega, [], rfl⟩
  | k + 1, L, r, h => by
    simp only [runK] at h
    cases h1 : runK bs k with
    | none => rw [h1] at h; simp at h
    | some p =>
      obtain ⟨L', r'⟩ := p
      rw [h1] at h; simp only at h
      have a := runK_len k h1
      cases h2 : nextR r' (L'.length + 1) with
      | none => rw [h2] at h; simp at h
      | some q =>
        obtain ⟨x, r2⟩ := q
        rw [h2] at h
        simp only [Option.some.injEq, Prod.mk.injEq] at h
        obtain ⟨rfl, rfl⟩ := h
        have b := nextR_len h2
        refine ⟨by simp [a.1], by omega, ?_⟩
        obtain ⟨p, hp⟩ := a.2.2
        obtain ⟨p2, hp2⟩ : ∃ p2, r' = p2 ++ r2 := by
          unfold nextR at h2
          cases h3 : rdN 1048576 r' with
          | none => rw [h3] at h2; simp at h2
          | some p3 =>
            obtain ⟨n, r3⟩ := p3
            rw [h3] at h2; simp only at h2
            have c := (rdN_back h3).1
            split at h2
            · split at h2
              · simp at h2
              · split at h2
                · simp only [Option.some.injEq, Prod.mk.injEq] at h2
                  obtain ⟨_, rfl⟩ := h2
                  exact ⟨putL n ++ r3.take (n + 4), by rw [c, List.append_assoc, List.take_append_drop]⟩
                · simp at h2
            · simp at h2
        exact ⟨p ++ p2, by rw [hp, hp2, List.append_assoc]⟩
theorem runK_more {bs : List UInt8} {k : Nat} (h : runK bs k = none) : ∀ j, runK bs (k + j) = none
  | 0 => h
  | j + 1 => by rw [← Nat.add_assoc, runK, runK_more h j]
/-- Where there is no further record. -/
def Ends (bs : List UInt8) (L : List Rc) (r : List UInt8) : Prop := runK bs L.length = some (L, r) ∧ nextR r (L.length + 1) = none
theorem Ends.uniq {bs : List UInt8} {L L' : List Rc} {r r' : List UInt8} (h : Ends bs L r) (h' : Ends bs L' r') : L = L' ∧ r = r' := by
  have no : ∀ {L r}, Ends bs L r → runK bs (L.length + 1) = none := fun {L r} h => by rw [runK, h.1]; simp only; rw [h.2]
  have e : L.length = L'.length := by
    rcases Nat.lt_trichotomy L.length L'.length with hl | hl | hl
    · have := runK_more (no h) (L'.length - (L.length + 1))
      rw [show L.length + 1 + (L'.length - (L.length + 1)) = L'.length by omega, h'.1] at this
      simp at this
    · exact hl
    · have := runK_more (no h') (L.length - (L'.length + 1))
      rw [show L'.length + 1 + (L.length - (L'.length + 1)) = L.length by omega, h.1] at this
      simp at this
  have := h.1
  rw [e, h'.1] at this
  simp only [Option.some.injEq, Prod.mk.injEq] at this
  exact ⟨this.1.symm, this.2.symm⟩
theorem runK_step {bs : List UInt8} {L : List Rc} {r r' : List UInt8} {x : Rc} (h : runK bs L.length = some (L, r)) (hx : nextR r (L.length + 1) = some (x, r')) : runK bs (L ++ [x]).length = some (L ++ [x], r') := by
  rw [List.length_append, List.length_singleton, runK, h]
  simp only
  rw [hx]
end Go.Proofs.YtefhmbnhhkgifaaDoor
