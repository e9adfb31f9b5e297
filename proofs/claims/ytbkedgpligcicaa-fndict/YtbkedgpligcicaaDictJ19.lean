import Derived.Test.YtbkedgpligcicaaDictJ18
import Derived.Test.YtbkedgpligcicaaDictJ15
import Derived.Test.YtbkedgpligcicaaDictJ09
namespace Go.Proofs.Ytbkedgpligcicaa
open Go Go.RowKit
set_option linter.unusedVariables false
set_option maxRecDepth 100000

theorem BytesAt.old {w0 W : World} {b off : Nat} {bs : List UInt8} (h : BytesAt w0 b off bs) (ho : Below w0.heap.size w0 W) (hlt : b < w0.heap.size) : BytesAt W b off bs :=
  fun t ht => (ho.cell (p := ⟨b, off + t, none⟩) hlt).trans (h t ht)
set_option maxHeartbeats 1000000 in
theorem number_any {w0 W : World} {B most : Nat} {bs : List UInt8} {sh : Bool} (hn : bs.length ≤ 1048576) (hm : most ≤ 1048576) (h : RdrAt w0 W B bs sh) :
    Calls Try.prog 82 #[.pointer (some ⟨B, 0, none⟩), .int .i64 (most : Int)] W fun e w' => e = .returned (.int .i64 (numR most bs sh).1) ∧ RdrAt w0 w' B (numR most bs sh).2.1 (numR most bs sh).2.2 ∧ RdFr B W w' := by
  obtain ⟨v, hb, hv⟩ := h.box
  have HH := hidd h
  have hcall : ∃ a c, v = .slice a bs.length c ∧ Calls Try.prog 100 #[.slice a bs.length c] W (fun e w' => e = .returned (.tuple #[.int .i64 (getV bs), .int .i64 (getS bs)]) ∧ w' = W) := by
    rcases hv with ⟨rfl, a, c, e⟩ | ⟨b, off, c, e, hc, hlt, hB⟩
    · exact ⟨a, c, e, leadingInt_none a c W⟩
    · exact ⟨_, c, e, leadingInt_some b off c bs W hn (hB.old h.old hlt)⟩
  obtain ⟨a, c, rfl, hcall⟩ := hcall
  have HC := hidd hcall
  have x0 := blkc hb 0
  have f0 := blkf hb 0
  cases hg : getL bs with
  | none =>
    obtain ⟨e1, e2⟩ := getVS_none hg
    rw [e1, e2] at HC
    have HE : Hid (numR most bs sh = (0, [], true)) := by show _ = _; rw [numR, hg]
    clear h hb hv hcall hg e1 e2
    go_enter Try.func82, Try.ntmps82
    go_wp2_with fail
    refine HC.out.mono ?_
    rintro e w2 ⟨rfl, rfl⟩
    go_wp2_with fail
    refine (stop_any HH.out).mono ?_
    rintro e w3 ⟨rfl, h2, h3⟩
    have HP := hidd (And.intro h2 h3)
    clear h2 h3
    go_wp2_with fail
    go_ret
    rw [HE.out]
    exact ⟨rfl, HP.out⟩
  | some p =>
    obtain ⟨y, s⟩ := p
    obtain ⟨e1, e2⟩ := getVS_some hg
    rw [e1, e2] at HC
    obtain ⟨hs1, hs2, hs3⟩ := getL_le hg
    have hy := (getL_inv hg).2.1
    have hs0 : ((s : Int) == 0) = false := by simp; omega
    by_cases hle : y ≤ most
    · have hlez : ¬ (most : Int) < (y : Int) := by omega
      have HE : Hid (numR most bs sh = ((y : Int), bs.drop s, sh)) := by show _ = _; rw [numR, hg]; show (if y ≤ most then _ else _) = _; rw [if_pos hle]
      obtain ⟨b, off, c2, e3, hc, hlt, hB⟩ := hv.resolve_left (fun h => by have := congrArg List.length h.1; rw [List.length_nil] at this; omega)
      simp only [Value.slice.injEq, true_and] at e3
      obtain ⟨rfl, rfl⟩ := e3
      have HP := hidd (h.cut hb hc hlt hB s (bs.length - s) (by omega))
      have hsl : (s : Int) ≤ (bs.length : Int) := by omega
      clear h hb hv hcall hg e1 e2 hB
      go_enter Try.func82, Try.ntmps82
      go_wp2_with fail
      refine HC.out.mono ?_
      rintro e w2 ⟨rfl, rfl⟩
      go_wp2_with fail
      all_goals
        go_ret
        rw [HE.out]
        exact ⟨rfl, HP.out _ _ (by first | exact Or.inr ⟨rfl, rfl⟩ | (left; omega))⟩
    · have hlez : (most : Int) < (y : Int) := by omega
      have HE : Hid (numR most bs sh = (0, [], true)) := by show _ = _; rw [numR, hg]; show (if y ≤ most then _ else _) = _; rw [if_neg hle]
      clear h hb hv hcall hg e1 e2
      go_enter Try.func82, Try.ntmps82
      go_wp2_with fail
      refine HC.out.mono ?_
      rintro e w2 ⟨rfl, rfl⟩
      go_wp2_with fail
      refine (stop_any HH.out).mono ?_
      rintro e w3 ⟨rfl, h2, h3⟩
      have HP := hidd (And.intro h2 h3)
      clear h2 h3
      go_wp2_with fail
      go_ret
      rw [HE.out]
      exact ⟨rfl, HP.out⟩
end Go.Proofs.Ytbkedgpligcicaa

namespace Go.Proofs.Ytbkedgpligcicaa
open Go Go.RowKit
set_option linter.unusedVariables false

/-! impl's statesOf in plain words: it goes on when it came short, and tells so at the end. -/
def stepA (p : List Ar × List UInt8 × Bool) : List Ar × List UInt8 × Bool :=
  (p.1 ++ [((nextR p.2.1 p.2.2).1, (numR 16383 (nextR p.2.1 p.2.2).2.1 (nextR p.2.1 p.2.2).2.2).1, 0)], (numR 16383 (nextR p.2.1 p.2.2).2.1 (nextR p.2.1 p.2.2).2.2).2)
def arcsN : Nat → List Ar × List UInt8 × Bool → List Ar × List UInt8 × Bool
  | 0, p => p
  | k + 1, p => arcsN k (stepA p)
theorem arcsN_succ : ∀ (k : Nat) (p : List Ar × List UInt8 × Bool), arcsN (k + 1) p = stepA (arcsN k p)
  | 0, p => rfl
  | k + 1, p => by rw [arcsN, arcsN_succ k, arcsN]
def stateR (bs : List UInt8) (sh : Bool) : St × List UInt8 × Bool :=
  (((numR 513 bs sh).1.toNat % 2 == 1, (arcsN ((numR 513 bs sh).1.toNat / 2) ([], (numR 513 bs sh).2)).1), (arcsN ((numR 513 bs sh).1.toNat / 2) ([], (numR 513 bs sh).2)).2)
def stepS (p : List St × List UInt8 × Bool) : List St × List UInt8 × Bool := (p.1 ++ [(stateR p.2.1 p.2.2).1], (stateR p.2.1 p.2.2).2)
def stsN : Nat → List St × List UInt8 × Bool → List St × List UInt8 × Bool
  | 0, p => p
  | k + 1, p => stsN k (stepS p)
theorem stsN_succ : ∀ (k : Nat) (p : List St × List UInt8 × Bool), stsN (k + 1) p = stepS (stsN k p)
  | 0, p => rfl
  | k + 1, p => by rw [stsN, stsN_succ k, stsN]
def statesR (m : List UInt8) : List St × List UInt8 × Bool := stsN (numR 16384 m false).1.toNat ([], (numR 16384 m false).2)

theorem nextR_short (bs : List UInt8) : (nextR bs true).2.2 = true := by cases bs <;> rfl
theorem numR_short (n : Nat) (bs : List UInt8) : (numR n bs true).2.2 = true := by
  rw [numR]
  split
  · rfl
  · split <;> rfl
theorem numR_some {n : Nat} {bs : List UInt8} {v s : Nat} (sh : Bool) (h : getL bs = some (v, s)) (hv : v ≤ n) : numR n bs sh = ((v : Int), bs.drop s, sh) := by
  rw [numR, h]
  show (if v ≤ n then _ else _) = _
  rw [if_pos hv]
theorem numR_big {n : Nat} {bs : List UInt8} {v s : Nat} (sh : Bool) (h : getL bs = some (v, s)) (hv : ¬ v ≤ n) : numR n bs sh = (0, [], true) := by
  rw [numR, h]
  show (if v ≤ n then _ else _) = _
  rw [if_neg hv]
theorem numR_none {n : Nat} {bs : List UInt8} (sh : Bool) (h : getL bs = none) : numR n bs sh = (0, [], true) := by rw [numR, h]
theorem stepA_short {p : List Ar × List UInt8 × Bool} (h : p.2.2 = true) : (stepA p).2.2 = true := by
  unfold stepA
  rw [h, nextR_short]
  exact numR_short _ _
theorem arcsN_short : ∀ (k : Nat) {p : List Ar × List UInt8 × Bool}, p.2.2 = true → (arcsN k p).2.2 = true
  | 0, p, h => h
  | k + 1, p, h => arcsN_short k (stepA_short h)
theorem stateR_short (bs : List UInt8) : (stateR bs true).2.2 = true := arcsN_short _ (numR_short 513 bs)
theorem stsN_short : ∀ (k : Nat) {p : List St × List UInt8 × Bool}, p.2.2 = true → (stsN k p).2.2 = true
  | 0, p, h => h
  | k + 1, p, h => stsN_short k (by
    show (stateR p.2.1 p.2.2).2.2 = true
    rw [h]; exact stateR_short _)

theorem arcsN_rd : ∀ (k : Nat) (l0 : List Ar) (bs : List UInt8), (∀ l r, rdArcs 16384 k bs = some (l, r) → arcsN k (l0, bs, false) = (l0 ++ l, r, false)) ∧ (rdArcs 16384 k bs = none → (arcsN k (l0, bs, false)).2.2 = true) := by
  intro k
  induction k with
  | zero =>
    intro l0 bs
    refine ⟨fun l r h => ?_, fun h => by simp [rdArcs] at h⟩
    simp only [rdArcs, Option.some.injEq, Prod.mk.injEq] at h
    obtain ⟨rfl, rfl⟩ := h
    simp [arcsN]
  | succ k ih =>
    intro l0 bs
    cases bs with
    | nil =>
      refine ⟨fun l r h => by simp [rdArcs] at h, fun _ => ?_⟩
      rw [arcsN]
      exact arcsN_short k (by unfold stepA; exact numR_short _ _)
    | cons b bs =>
      rw [arcsN, rdArcs]
      cases hg : getL bs with
      | none =>
        refine ⟨fun l r h => by simp at h, fun _ => ?_⟩
        refine arcsN_short k ?_
        show (numR 16383 bs false).2.2 = true
        rw [numR_none _ hg]
      | some p =>
        obtain ⟨v, s⟩ := p
        rw [Option.bind_some]
        by_cases hv : v < 16384
        · rw [if_pos hv]
          have e : stepA (l0, b :: bs, false) = (l0 ++ [((b.toNat : Int), (v : Int), 0)], bs.drop s, false) := by
            show (l0 ++ [((b.toNat : Int), (numR 16383 bs false).1, 0)], (numR 16383 bs false).2) = _
            rw [numR_some false hg (by omega)]
          rw [e]
          obtain ⟨i1, i2⟩ := ih (l0 ++ [((b.toNat : Int), (v : Int), 0)]) (bs.drop s)
          cases hr : rdArcs 16384 k (bs.drop s) with
          | none => exact ⟨fun l r h => by simp at h, fun _ => i2 hr⟩
          | some q =>
            obtain ⟨l', r'⟩ := q
            refine ⟨fun l r h => ?_, fun h => by simp at h⟩
            simp only [Option.map_some, Option.some.injEq, Prod.mk.injEq] at h
            obtain ⟨rfl, rfl⟩ := h
            rw [i1 _ _ hr, List.append_assoc]; rfl
        · rw [if_neg hv]
          refine ⟨fun l r h => by simp at h, fun _ => ?_⟩
          refine arcsN_short k ?_
          show (numR 16383 bs false).2.2 = true
          rw [numR_big _ hg (by omega)]

theorem stateR_rd (bs : List UInt8) : (∀ s r, rdSt 16384 bs = some (s, r) → stateR bs false = (s, r, false)) ∧ (rdSt 16384 bs = none → (stateR bs false).2.2 = true) := by
  unfold rdSt
  cases hg : getL bs with
  | none =>
    refine ⟨fun s r h => by simp at h, fun _ => ?_⟩
    refine arcsN_short _ ?_
    show (numR 513 bs false).2.2 = true
    rw [numR_none _ hg]
  | some p =>
    obtain ⟨v, z⟩ := p
    rw [Option.bind_some]
    by_cases hv : v ≤ 513
    · rw [if_pos hv]
      have e : stateR bs false = ((v % 2 == 1, (arcsN (v / 2) ([], bs.drop z, false)).1), (arcsN (v / 2) ([], bs.drop z, false)).2) := by
        unfold stateR
        rw [numR_some false hg hv]; rfl
      rw [e]
      obtain ⟨i1, i2⟩ := arcsN_rd (v / 2) [] (bs.drop z)
      cases hr : rdArcs 16384 (v / 2) (bs.drop z) with
      | none => exact ⟨fun s r h => by simp at h, fun _ => i2 hr⟩
      | some q =>
        obtain ⟨l', r'⟩ := q
        refine ⟨fun s r h => ?_, fun h => by simp at h⟩
        simp only [Option.map_some, Option.some.injEq, Prod.mk.injEq] at h
        obtain ⟨rfl, rfl⟩ := h
        rw [i1 _ _ hr]; rfl
    · rw [if_neg hv]
      refine ⟨fun s r h => by simp at h, fun _ => ?_⟩
      refine arcsN_short _ ?_
      show (numR 513 bs false).2.2 = true
      rw [numR_big _ hg hv]

theorem stsN_rd : ∀ (k : Nat) (S0 : List St) (bs : List UInt8), (∀ S r, rdSts 16384 k bs = some (S, r) → stsN k (S0, bs, false) = (S0 ++ S, r, false)) ∧ (rdSts 16384 k bs = none → (stsN k (S0, bs, false)).2.2 = true) := by
  intro k
  induction k with
  | zero =>
    intro S0 bs
    refine ⟨fun l r h => ?_, fun h => by simp [rdSts] at h⟩
    simp only [rdSts, Option.some.injEq, Prod.mk.injEq] at h
    obtain ⟨rfl, rfl⟩ := h
    simp [stsN]
  | succ k ih =>
    intro S0 bs
    rw [stsN, rdSts]
    obtain ⟨j1, j2⟩ := stateR_rd bs
    cases hs : rdSt 16384 bs with
    | none =>
      refine ⟨fun l r h => by simp at h, fun _ => ?_⟩
      exact stsN_short k (j2 hs)
    | some p =>
      obtain ⟨s, r1⟩ := p
      rw [Option.bind_some]
      have e : stepS (S0, bs, false) = (S0 ++ [s], r1, false) := by
        show (S0 ++ [(stateR bs false).1], (stateR bs false).2) = _
        rw [j1 _ _ hs]
      rw [e]
      obtain ⟨i1, i2⟩ := ih (S0 ++ [s]) r1
      cases hr : rdSts 16384 k r1 with
      | none => exact ⟨fun l r h => by simp at h, fun _ => i2 hr⟩
      | some q =>
        obtain ⟨S', r'⟩ := q
        refine ⟨fun S r h => ?_, fun h => by simp at h⟩
        simp only [Option.map_some, Option.some.injEq, Prod.mk.injEq] at h
        obtain ⟨rfl, rfl⟩ := h
        rw [i1 _ _ hr, List.append_assoc]; rfl

/-- What statesOf tells is what is told of the bytes. -/
theorem rdI_statesR {bs : List UInt8} (h4 : 4 ≤ bs.length) (hs : four (sumL (bs.take (bs.length - 4))) = bs.drop (bs.length - 4)) :
    rdI bs = if (statesR (bs.take (bs.length - 4))).2.2 = false ∧ (statesR (bs.take (bs.length - 4))).2.1 = [] then some (statesR (bs.take (bs.length - 4))).1 else none := by
  unfold rdI
  rw [if_pos ⟨h4, hs⟩]
  generalize bs.take (bs.length - 4) = m
  unfold statesR
  cases hg : getL m with
  | none =>
    rw [numR_none _ hg, if_neg (by rw [stsN_short _ rfl]; simp)]; rfl
  | some p =>
    obtain ⟨v, z⟩ := p
    rw [Option.bind_some]
    by_cases hv : v ≤ 16384
    · rw [if_pos hv, numR_some _ hg hv]
      show _ = if (stsN (v : Int).toNat ([], m.drop z, false)).2.2 = false ∧ (stsN (v : Int).toNat ([], m.drop z, false)).2.1 = [] then some (stsN (v : Int).toNat ([], m.drop z, false)).1 else none
      rw [Int.toNat_natCast]
      obtain ⟨i1, i2⟩ := stsN_rd v [] (m.drop z)
      show (rdSts 16384 v (m.drop z)).bind _ = _
      cases hr : rdSts 16384 v (m.drop z) with
      | none => rw [if_neg (by rw [i2 hr]; simp)]; rfl
      | some q =>
        obtain ⟨S', r'⟩ := q
        rw [i1 _ _ hr, Option.bind_some]
        show (if r' = [] then some S' else none) = if false = false ∧ r' = [] then some ([] ++ S') else none
        by_cases hq : r' = []
        · rw [if_pos hq, if_pos ⟨rfl, hq⟩]; rfl
        · rw [if_neg hq, if_neg fun h => hq h.2]
    · rw [if_neg hv, numR_big _ hg hv, if_neg (by rw [stsN_short _ rfl]; simp)]
end Go.Proofs.Ytbkedgpligcicaa

namespace Go.Proofs.Ytbkedgpligcicaa
open Go Go.RowKit
set_option linter.unusedVariables false

/-! What the checks tell does not reach the Aheads. -/
def Like (S S' : List St) : Prop := S.map bareS = S'.map bareS
theorem Like.symm {S S' : List St} (h : Like S S') : Like S' S := Eq.symm h
theorem Like.len {S S' : List St} (h : Like S S') : S.length = S'.length := by have := congrArg List.length h; simpa using this
theorem Like.at {S S' : List St} (h : Like S S') (i : Nat) : bareS (S.getD i st0) = bareS (S'.getD i st0) := by
  rw [← getD_bare, ← getD_bare, h]
theorem Like.fin {S S' : List St} (h : Like S S') (i : Nat) : finAt S i = finAt S' i := by
  show (bareS (S.getD i st0)).1 = (bareS (S'.getD i st0)).1
  rw [h.at i]
theorem Like.arcs {S S' : List St} (h : Like S S') (i : Nat) : (arcsAt S i).map bareA = (arcsAt S' i).map bareA := by
  show (bareS (S.getD i st0)).2 = (bareS (S'.getD i st0)).2
  rw [h.at i]
theorem Like.mem {S S' : List St} (h : Like S S') {i : Nat} {a : Ar} (ha : a ∈ arcsAt S i) : ∃ b ∈ arcsAt S' i, a.1 = b.1 ∧ a.2.1 = b.2.1 := by
  have h1 : bareA a ∈ (arcsAt S' i).map bareA := by rw [← h.arcs i]; exact List.mem_map_of_mem ha
  obtain ⟨b, hb, e⟩ := List.mem_map.1 h1
  exact ⟨b, hb, (congrArg Prod.fst e).symm, (congrArg (fun x => x.2.1) e).symm⟩
theorem sumE_bare (e : Nat → Nat) (l : List Ar) : sumE e (l.map bareA) = sumE e l := by
  unfold sumE
  rw [List.map_map]; rfl
theorem Like.sum {S S' : List St} (h : Like S S') (e : Nat → Nat) (i : Nat) : sumE e (arcsAt S i) = sumE e (arcsAt S' i) := by
  rw [← sumE_bare, h.arcs i, sumE_bare]
theorem lks_bare (l : List Ar) : (l.map bareA).map lkOf = l.map lkOf := by rw [List.map_map]; rfl
theorem Like.lks {S S' : List St} (h : Like S S') (i : Nat) : lks S i = Go.Proofs.Ytbkedgpligcicaa.lks S' i := by
  show (arcsAt S i).map lkOf = (arcsAt S' i).map lkOf
  rw [← lks_bare, h.arcs i, lks_bare]
theorem Like.diff {S S' : List St} (h : Like S S') {n : Nat} (hd : DiffP S n) : DiffP S' n := fun i j hi hj h1 h2 => hd i j hi hj (by rw [h.fin, h.fin]; exact h1) (by rw [h.lks, h.lks]; exact h2)
theorem Like.sane {S S' : List St} (h : Like S S') {e g : Nat → Nat} (hs : Sane S e g) : Sane S' e g := by
  have hl := h.len
  refine ⟨fun i hi => ?_, fun i hi => hs.least i (by omega), fun i hi => hs.most i (by omega), fun i hi a ha => ?_, fun i hi => hs.deep i (by omega)⟩
  · rw [← h.fin, ← h.sum]; exact hs.ends i (by omega)
  · obtain ⟨b, hb, _, e2⟩ := h.symm.mem ha
    rw [e2]; exact hs.long i (by omega) b hb
theorem Like.tal {S S' : List St} (h : Like S S') {E G : List Nat} (ht : TalOK S E G) : TalOK S' E G := by
  have hl := h.len
  refine ⟨by rw [ht.lenE, hl], by rw [ht.lenG, hl], fun i hi hp => ?_, fun i hi hp => ht.most i (by omega) hp, fun i hi hp a ha => ?_⟩
  · rw [← h.fin, ← h.sum]; exact ht.ends i (by omega) hp
  · obtain ⟨b, hb, _, e2⟩ := h.symm.mem ha
    rw [e2]; exact ht.next i (by omega) hp b hb
theorem arcGo_bare (n : Nat) : ∀ (l : List Ar) (m : Nat) (last : Int), arcGo n m last (l.map bareA) = arcGo n m last l
  | [], m, last => rfl
  | a :: t, m, last => by
    rw [List.map_cons, arcGo, arcGo, arcGo_bare n t]; rfl
theorem metGo_bare (n : Nat) : ∀ (S : List St) (i m : Nat), metGo n i m (S.map bareS) = metGo n i m S
  | [], i, m => rfl
  | s :: t, i, m => by
    rw [List.map_cons, metGo, metGo]
    show (if i = m then false else match arcGo n m (-1) (s.2.map bareA) with | none => false | some m => metGo n (i + 1) m (t.map bareS)) = _
    rw [arcGo_bare]
    split
    · rfl
    · cases arcGo n m (-1) s.2 with
      | none => rfl
      | some m' => exact metGo_bare n t _ _
theorem Like.met {S S' : List St} (h : Like S S') : metOK S = metOK S' := by
  unfold metOK
  rw [← metGo_bare S.length S, ← metGo_bare S'.length S', h, h.len]
theorem Like.none {S S' : List St} (h : Like S S') {i : Nat} (ha : arcsAt S i = []) : arcsAt S' i = [] := by
  have := h.arcs i
  rw [ha] at this
  exact List.map_eq_nil_iff.1 this.symm
theorem Like.end {S S' : List St} (h : Like S S') {E : List Nat} (hE : EndOK S E) : EndOK S' E := by
  have hl := h.len
  refine ⟨by rw [hE.len, hl], by rw [← h.met]; exact hE.met, by rw [← h.fin]; exact hE.fin0, ?_⟩
  rcases hE.ends with ⟨h1, h2, h3⟩ | ⟨G, hT, h0, hD, hA⟩
  · exact Or.inl ⟨by omega, h.none h2, h3⟩
  · refine Or.inr ⟨G, h.tal hT, h0, by rw [← hl]; exact h.diff hD, fun e g hs => ?_⟩
    have := hA e g (h.symm.sane hs)
    intro i hi hp
    exact this i (by omega) hp
/-- A state's arcs with the Aheads that they must have. -/
def ahdA (E : List Nat) : Nat → List Ar → List Ar
  | _, [] => []
  | n, a :: t => (a.1, a.2.1, (n : Int)) :: ahdA E (n + valE E a.2.1.toNat) t
def ahdS (E : List Nat) (s : St) : St := (s.1, ahdA E (if s.1 then 1 else 0) s.2)
theorem ahdA_bare (E : List Nat) : ∀ (l : List Ar) (n : Nat), (ahdA E n l).map bareA = l.map bareA
  | [], n => rfl
  | a :: t, n => by rw [ahdA, List.map_cons, List.map_cons, ahdA_bare E t]; rfl
theorem ahdS_like (E : List Nat) (S : List St) : Like (S.map (ahdS E)) S := by
  unfold Like
  rw [List.map_map]
  exact List.map_congr_left fun s _ => by
    show (s.1, (ahdA E _ s.2).map bareA) = (s.1, s.2.map bareA)
    rw [ahdA_bare]
theorem ahdA_at (E : List Nat) : ∀ (l : List Ar) (n k : Nat) (a : Ar), (ahdA E n l)[k]? = some a → a.2.2 = ((n + sumE (valE E) (l.take k) : Nat) : Int)
  | [], n, k, a, h => by simp [ahdA] at h
  | b :: t, n, 0, a, h => by
    simp only [ahdA, List.getElem?_cons_zero, Option.some.injEq] at h
    subst h
    simp [sumE]
  | b :: t, n, k + 1, a, h => by
    simp only [ahdA, List.getElem?_cons_succ] at h
    rw [ahdA_at E t _ k a h]
    simp [sumE]; omega
theorem getD_ahd (E : List Nat) (S : List St) {i : Nat} (hi : i < S.length) : (S.map (ahdS E)).getD i st0 = ahdS E (S.getD i st0) := by
  simp [List.getD_eq_getElem?_getD, hi]
theorem sumE_like (e : Nat → Nat) {l l' : List Ar} (h : l.map bareA = l'.map bareA) (k : Nat) : sumE e (l.take k) = sumE e (l'.take k) := by
  rw [← sumE_bare, List.map_take, h, ← List.map_take, sumE_bare]
/-- States that pass the checks, with their Aheads, are a dictionary. -/
theorem EndOK.dict {S : List St} {E : List Nat} (h : EndOK S E) : ∃ ts, IsDict (((valE E 0 : Nat) : Int), S.map (ahdS E)) ts := by
  have hL := ahdS_like E S
  refine (okD_iff (hL.symm.end h)).2 ⟨rfl, fun i hi k a ha => ?_⟩
  have hi' : i < S.length := by simpa using hi
  have e1 : arcsAt (S.map (ahdS E)) i = ahdA E (if (S.getD i st0).1 then 1 else 0) (S.getD i st0).2 := by
    rw [arcsAt, getD_ahd E S hi']; rfl
  have e2 : finAt (S.map (ahdS E)) i = (S.getD i st0).1 := by
    rw [finAt, getD_ahd E S hi']; rfl
  have h1 := ahdA_at E _ _ k a (e1 ▸ ha)
  rw [h1, ahN, e2, sumE_like (valE E) (hL.arcs i) k]
  rfl
theorem Like.must {S S' : List St} {c : Int} {ts : List Tx} (h : Like S S') (hd : IsDict (c, S) ts) : metOK S' = true ∧ finAt S' 0 = false ∧ ((S'.length = 1 ∧ arcsAt S' 0 = []) ∨ ((∃ e g, Sane S' e g) ∧ DiffP S' S'.length)) := by
  obtain ⟨h1, h2, h3⟩ := hd.must
  have hl := h.len
  refine ⟨by rw [← h.met]; exact h1, by rw [← h.fin]; exact h2, ?_⟩
  rcases h3 with ⟨h3, h4⟩ | ⟨⟨e, g, h3⟩, h4⟩
  · exact Or.inl ⟨by omega, h.none h4⟩
  · exact Or.inr ⟨⟨e, g, h.sane h3⟩, by rw [← hl]; exact h.diff h4⟩
end Go.Proofs.Ytbkedgpligcicaa

namespace Go.Proofs.Ytbkedgpligcicaa
open Go Go.RowKit
set_option linter.unusedVariables false
set_option linter.unusedSimpArgs false

/-- What the states of a dictionary must be, Aheads aside. -/
def Must (S : List St) : Prop := metOK S = true ∧ finAt S 0 = false ∧ ((S.length = 1 ∧ arcsAt S 0 = []) ∨ ((∃ e g, Sane S e g) ∧ DiffP S S.length))
def EndM : Prop := ∀ (a : Option Addr) (cap : Nat) (S : List St) (w : World), S.length ≤ 1048576 → (∀ i, (arcsAt S i).length ≤ 1048576) → HoldS w a S →
  Calls Try.prog 41 #[.slice a S.length cap] w fun e w' => ∃ v b, e = .returned (.tuple #[v, .bool b]) ∧ Below w.heap.size w w' ∧
    (b = true → ∃ be E, v = .slice (some ⟨be, 0, none⟩) S.length S.length ∧ w.heap.size ≤ be ∧ w'.heap[be]? = some (.cells (nCellsE E).toArray 3) ∧ EndOK S E) ∧ (Must S → b = true)
set_option maxHeartbeats 4000000 in
set_option maxRecDepth 100000 in
theorem endingsM_any : EndM := by
  intro a cap S w hn hA hS
  have HS := hidd hS
  have HA := hidd hA
  have HMet := hidd (metInOrder_any a cap S w hn hA hS)
  clear hS hA
  have hms := run_makeInts S.length (by omega)
  go_enter Try.func41, Try.ntmps41
  cases hm : metOK S with
  | false =>
    rw [hm] at HMet
    have Hno : Hid (¬ Must S) := by
      intro h
      have := h.1
      rw [hm] at this
      cases this
    clear hm
    go_wp2_with fail
    refine HMet.out.mono ?_
    rintro e w1 ⟨rfl, hb1⟩
    have HB1 := hidd hb1
    clear hb1
    go_wp2_with fail
    go_ret2
    exact ⟨_, _, rfl, HB1.out, (fun h => by cases h), fun h => (Hno.out h).elim⟩
  | true =>
    rw [hm] at HMet
    obtain ⟨hr, harcs, hbfs⟩ := (metOK_iff S).1 hm
    have Harcs := hidd harcs
    have Hbfs := hidd hbfs
    have Hm := hidd hm
    clear hm harcs hbfs
    go_wp2_with fail
    refine HMet.out.mono ?_
    rintro e w1 ⟨rfl, hb1⟩
    have HB1 := hidd hb1
    have hz1 := hb1.size
    obtain ⟨bS, oS, rfl, hbS, hst⟩ := HS.out.resolve_left (fun h => by rw [h] at hr; simp at hr)
    obtain ⟨s0, ai, ci, s1, hai⟩ := hst 0 (by omega)
    replace s0 := (hb1.cell (p := ⟨bS, oS + 0 * 2, none⟩) hbS).trans s0
    have S1w : Hid (w.cell? ⟨bS, oS + 1, none⟩ = some (.slice ai (arcsAt S 0).length ci)) := by
      have := s1
      rw [show (S.getD 0 st0).2 = arcsAt S 0 from rfl] at this
      simp only [Nat.zero_mul, Nat.add_zero] at this
      exact this
    replace s1 := (hb1.cell (p := ⟨bS, oS + 0 * 2 + 1, none⟩) hbS).trans s1
    have hfk : (S.getD 0 st0).1 = finAt S 0 := rfl
    have hak : (S.getD 0 st0).2 = arcsAt S 0 := rfl
    rw [hfk] at s0
    rw [hak] at s1
    have hS0 : (0 : Int) < (S.length : Int) := by omega
    simp only [Nat.zero_mul, Nat.add_zero] at s0 s1
    clear hst hai hb1 hfk hak HMet
    cases hf : finAt S 0 with
    | true =>
      have Hno : Hid (¬ Must S) := by
        intro h
        have := h.2.1
        rw [hf] at this
        cases this
      rw [hf] at s0
      clear hf
      go_wp2_with fail
      go_ret2
      exact ⟨_, _, rfl, HB1.out, (fun h => by cases h), fun h => (Hno.out h).elim⟩
    | false =>
      rw [hf] at s0
      have Hf := hidd hf
      clear hf
      go_upto_region 3 with fail
      go_cut [4] (fun c wy => ∃ T be bl, c = .pointer (some ⟨T, 0, none⟩) ∧ TalAt w wy T be bl (some ⟨bS, oS, none⟩) cap S (List.replicate S.length 0) (List.replicate S.length 0) ∧ w.heap.size ≤ T)
      case first =>
        go_region_law (fail)
        all_goals
          go_wp2_with fail
          go_meet
          case rel =>
            first
            | exact ⟨w1.heap.size, w1.heap.size + 1, w1.heap.size + 1 + 1, rfl, ⟨below_drewN ((((HB1.out.alloc hz1 _).alloc (by simp; omega) _).alloc (by simp; omega) _)) 1, HS.out, (box_three w1 _ _ _).1, (box_three w1 _ _ _).2.1, (box_three w1 _ _ _).2.2, ⟨by omega, by omega, by omega⟩, by omega, by omega⟩, by omega⟩
            | exact ⟨w1.heap.size, w1.heap.size + 1 + 1, w1.heap.size + 1, rfl, ⟨below_drewN ((((HB1.out.alloc hz1 _).alloc (by simp; omega) _).alloc (by simp; omega) _)) 1, HS.out, (box_three w1 _ _ _).1, (box_three w1 _ _ _).2.2, (box_three w1 _ _ _).2.1, ⟨by omega, by omega, by omega⟩, by omega, by omega⟩, by omega⟩
            | exact ⟨w1.heap.size + 1, w1.heap.size, w1.heap.size + 1 + 1, rfl, ⟨below_drewN ((((HB1.out.alloc hz1 _).alloc (by simp; omega) _).alloc (by simp; omega) _)) 1, HS.out, (box_three w1 _ _ _).2.1, (box_three w1 _ _ _).1, (box_three w1 _ _ _).2.2, ⟨by omega, by omega, by omega⟩, by omega, by omega⟩, by omega⟩
            | exact ⟨w1.heap.size + 1, w1.heap.size + 1 + 1, w1.heap.size, rfl, ⟨below_drewN ((((HB1.out.alloc hz1 _).alloc (by simp; omega) _).alloc (by simp; omega) _)) 1, HS.out, (box_three w1 _ _ _).2.1, (box_three w1 _ _ _).2.2, (box_three w1 _ _ _).1, ⟨by omega, by omega, by omega⟩, by omega, by omega⟩, by omega⟩
            | exact ⟨w1.heap.size + 1 + 1, w1.heap.size, w1.heap.size + 1, rfl, ⟨below_drewN ((((HB1.out.alloc hz1 _).alloc (by simp; omega) _).alloc (by simp; omega) _)) 1, HS.out, (box_three w1 _ _ _).2.2, (box_three w1 _ _ _).1, (box_three w1 _ _ _).2.1, ⟨by omega, by omega, by omega⟩, by omega, by omega⟩, by omega⟩
            | exact ⟨w1.heap.size + 1 + 1, w1.heap.size + 1, w1.heap.size, rfl, ⟨below_drewN ((((HB1.out.alloc hz1 _).alloc (by simp; omega) _).alloc (by simp; omega) _)) 1, HS.out, (box_three w1 _ _ _).2.2, (box_three w1 _ _ _).2.1, (box_three w1 _ _ _).1, ⟨by omega, by omega, by omega⟩, by omega, by omega⟩, by omega⟩
      case rest =>
        obtain ⟨T, be, bl, rfl, htal, hT⟩ := hcut
        have HTal := hidd htal
        have hzc : w.heap.size ≤ wc.heap.size := htal.old.size
        have t1 : wc.cell? ⟨T, 1, none⟩ = some (.slice (some ⟨be, 0, none⟩) S.length S.length) := blkc htal.tal 1
        replace s1 : wc.cell? ⟨bS, oS + 1, none⟩ = some (.slice ai (arcsAt S 0).length ci) := (htal.old.cell (p := ⟨bS, oS + 1, none⟩) hbS).trans S1w.out
        clear htal hms s0
        by_cases h1 : S.length = 1 ∧ arcsAt S 0 = []
        · obtain ⟨h1, h2⟩ := h1
          have hlb : ((S.length : Int) == 1) = true := by simp [h1]
          have hal : (((arcsAt S 0).length : Int) == 0) = true := by simp [h2]
          have H1 := hidd h1
          have H2 := hidd h2
          clear h1 h2
          go_wp2_with fail
          go_ret2
          refine ⟨_, _, rfl, HTal.out.old, ?_, fun _ => rfl⟩
          intro _
          refine ⟨be, _, rfl, HTal.out.new.1, HTal.out.rowE, by simp, Hm.out, Hf.out, Or.inl ⟨H1.out, H2.out, by rw [H1.out]; rfl⟩⟩
        · go_upto_region 4 with fail
          go_cut [32] (fun c wy => c = .bool false ∧ wy = wc)
          case first =>
            by_cases hl : S.length = 1
            · have hlb : ((S.length : Int) == 1) = true := by simp [hl]
              have h2 : arcsAt S 0 ≠ [] := fun h => h1 ⟨hl, h⟩
              have hal : (((arcsAt S 0).length : Int) == 0) = false := by
                have : (arcsAt S 0).length ≠ 0 := fun h => h2 (List.length_eq_zero_iff.1 h)
                simp
                exact h2
              have H1 := hidd h1
              clear h1 hl h2
              go_wp2_with fail
              go_meet
              case rel => exact ⟨rfl, rfl⟩
            · have hlb : ((S.length : Int) == 1) = false := by simp; omega
              have H1 := hidd h1
              clear h1 hl
              go_wp2_with fail
              go_meet
              case rel => exact ⟨rfl, rfl⟩
          case rest =>
            obtain ⟨rfl, hwc⟩ := hcut
            obtain rfl := hwc.symm
            have H1 := hidd h1
            have hC := take_any (w0 := w) (T := T) (be := be) (bl := bl) (aS := some ⟨bS, oS, none⟩) (cS := cap) (S := S) hr.2 Harcs.out HA.out 65 0 rfl
            have HC : Hid (∀ u, TalAt w u T be bl (some ⟨bS, oS, none⟩) cap S (List.replicate S.length 0) (List.replicate S.length 0) → Calls Try.prog 70 #[.pointer (some ⟨T, 0, none⟩), .int .i64 0, .int .i64 0] u fun e w' =>
                ∃ (b : Bool) (E' G' : List Nat), e = .returned (.bool b) ∧ TalAt w w' T be bl (some ⟨bS, oS, none⟩) cap S E' G' ∧ (b = true → TalOK S E' G' ∧ 0 < valE E' 0) ∧ (∀ e g, Sane S e g → b = true ∧ Agree S E' G' e g)) := by
              intro u hu
              have h := hC 0 u _ _ (by omega) hu (talOK_zero S)
              refine Calls.mono h ?_
              rintro e w' ⟨b, E', G', h1, h2, _, h3, h4⟩
              exact ⟨b, E', G', h1, h2, fun hb => ⟨(h3 hb).1, (h3 hb).2.1⟩, fun e g hs => h4 e g hs (agree_zero S _ e g) (by have := hs.deep 0 (by omega); omega)⟩
            clear hC s1 h1 hwc
            by_cases hs : ∃ e g, Sane S e g
            · have HTk : Hid (∀ u, TalAt w u T be bl (some ⟨bS, oS, none⟩) cap S (List.replicate S.length 0) (List.replicate S.length 0) → Calls Try.prog 70 #[.pointer (some ⟨T, 0, none⟩), .int .i64 0, .int .i64 0] u fun e w' =>
                  ∃ (E' G' : List Nat), e = .returned (.bool true) ∧ TalAt w w' T be bl (some ⟨bS, oS, none⟩) cap S E' G' ∧ (TalOK S E' G' ∧ 0 < valE E' 0) ∧ (∀ e g, Sane S e g → Agree S E' G' e g)) := by
                intro u hu
                refine Calls.mono (HC.out u hu) ?_
                rintro e w' ⟨b, E', G', h1, h2, h3, h4⟩
                obtain ⟨e0, g0, hs⟩ := hs
                have hb := (h4 e0 g0 hs).1
                subst hb
                exact ⟨E', G', h1, h2, h3 rfl, fun e g hs => (h4 e g hs).2⟩
              have HTd : Hid (TalAt w wc.drew T be bl (some ⟨bS, oS, none⟩) cap S (List.replicate S.length 0) (List.replicate S.length 0)) := HTal.out.below (below_drewN (Below.refl _ _) 1)
              clear hs HC
              go_wp2_with fail
              go_region_with (first
                | (go_at_call 70; refine (HTk.out _ HTd.out).mono ?_; rintro e' w7 ⟨E', G', rfl, ht7, hok7, hag7⟩; have HT7 := hidd ht7; have HOk7 := hidd hok7; have HAg7 := hidd hag7; have y1 : w7.cell? ⟨T, 1, none⟩ = some (.slice (some ⟨be, 0, none⟩) S.length S.length) := blkc ht7.tal 1; clear ht7 hok7 hag7)
                | (go_at_call 71; refine (allDiffer_any _ cap S _ hr.2 Harcs.out (HS.out.below HT7.out.old)).mono ?_; rintro e'' w8 ⟨rfl, hb8⟩; have HB8 := hidd hb8; clear hb8; have y2 : w8.cell? ⟨T, 1, none⟩ = some (.slice (some ⟨be, 0, none⟩) S.length S.length) := blkc (blko HT7.out.tal HB8.out) 1))
              all_goals
                go_wp2_with fail
                go_ret2
                refine ⟨.slice (some ⟨be, 0, none⟩) S.length S.length, diffB S, rfl, HT7.out.old.trans (HB8.out.mono HT7.out.old.size), ?_, ?_⟩
                · intro hd
                  exact ⟨be, E', rfl, HT7.out.new.1, blko HT7.out.rowE HB8.out, HOk7.out.1.lenE, Hm.out, Hf.out, Or.inr ⟨G', HOk7.out.1, HOk7.out.2, diffB_iff.1 hd, HAg7.out⟩⟩
                · intro h
                  rcases h.2.2 with h2 | h2
                  · exact absurd h2 H1.out
                  · exact diffB_yes h2.2
            · have HTk : Hid (∀ u, TalAt w u T be bl (some ⟨bS, oS, none⟩) cap S (List.replicate S.length 0) (List.replicate S.length 0) → Calls Try.prog 70 #[.pointer (some ⟨T, 0, none⟩), .int .i64 0, .int .i64 0] u fun e w' =>
                  ∃ (E' G' : List Nat), e = .returned (.bool false) ∧ TalAt w w' T be bl (some ⟨bS, oS, none⟩) cap S E' G') := by
                intro u hu
                refine Calls.mono (HC.out u hu) ?_
                rintro e w' ⟨b, E', G', h1, h2, h3, h4⟩
                cases b with
                | false => exact ⟨E', G', h1, h2⟩
                | true =>
                  obtain ⟨h5, h6⟩ := h3 rfl
                  exact absurd ⟨_, _, h5.sane (h5.ends_all h6 (by omega) (fun j hj a ha => ((Harcs.out j hj).2 a ha).2.2.2) Hbfs.out)⟩ hs
              have HTd : Hid (TalAt w wc.drew T be bl (some ⟨bS, oS, none⟩) cap S (List.replicate S.length 0) (List.replicate S.length 0)) := HTal.out.below (below_drewN (Below.refl _ _) 1)
              have Hno : Hid (¬ Must S) := by
                intro h
                rcases h.2.2 with h2 | h2
                · exact H1.out h2
                · exact hs h2.1
              clear hs HC
              go_wp2_with fail
              have HS0 : Hid (∀ u, TalAt w u T be bl (some ⟨bS, oS, none⟩) cap S (List.replicate S.length 0) (List.replicate S.length 0) → u.heap[T]? = some (.cells #[.slice (some ⟨bS, oS, none⟩) S.length cap, .slice (some ⟨be, 0, none⟩) S.length S.length, .slice (some ⟨bl, 0, none⟩) S.length S.length] 128)) := fun u h => h.tal
              refine wp_region_held (S := fun W' => W'.heap[T]? = some (.cells #[.slice (some ⟨bS, oS, none⟩) S.length cap, .slice (some ⟨be, 0, none⟩) S.length S.length, .slice (some ⟨bl, 0, none⟩) S.length S.length] 128)) (by kernel_rfl) ?_
              try simp only [Act.put, List.getElem_toArray, List.getElem_cons_succ, List.getElem_cons_zero, List.setIfInBounds_toArray, List.set_cons_zero, List.set_cons_succ]
              refine wpAnyH_take (i := 0) (v := .pointer (some ⟨T, 1, none⟩)) rfl (by kernel_rfl) (by kernel_rfl) (by kernel_rfl) (fun _ _ _ h => h) (Or.inl ⟨by kernel_rfl, fun W hW => exec_field1 W _ _ _ rfl T (by kernel_rfl)⟩) HTd.out.tal ?_
              try simp only [Act.put, List.getElem_toArray, List.getElem_cons_succ, List.getElem_cons_zero, List.setIfInBounds_toArray, List.set_cons_zero, List.set_cons_succ]
              refine wpAnyH_take (i := 1) (v := .slice (some ⟨be, 0, none⟩) S.length S.length) rfl (by kernel_rfl) (by kernel_rfl) (by kernel_rfl) (fun _ _ _ h => h) (Or.inl ⟨by kernel_rfl, fun W hW => exec_loadInts W _ _ _ rfl T 1 _ (by kernel_rfl) (blkc hW 1)⟩) HTd.out.tal ?_
              try simp only [Act.put, List.getElem_toArray, List.getElem_cons_succ, List.getElem_cons_zero, List.setIfInBounds_toArray, List.set_cons_zero, List.set_cons_succ]
              refine wpAnyH_one 2 (by kernel_rfl) ?_
              refine wpOp_call 70 #[.pointer (some ⟨T, 0, none⟩), .int .i64 0, .int .i64 0] rfl (by kernel_rfl) (exec_call3 _ _ _ _ _ _ _ _ _ _ rfl _ _ _ (by kernel_rfl) (by kernel_rfl) (by kernel_rfl) (Try.call70 _ _)) ?_
              refine (HTk.out _ HTd.out).mono ?_
              rintro e w7 ⟨E', G', rfl, ht7⟩
              have HT7 := hidd ht7
              clear ht7
              refine ⟨HT7.out.tal, ?_⟩
              try simp only [Act.put, List.getElem_toArray, List.getElem_cons_succ, List.getElem_cons_zero, List.setIfInBounds_toArray, List.set_cons_zero, List.set_cons_succ]
              refine wpAnyH_take (i := 3) (v := .bool false) rfl (by kernel_rfl) (by kernel_rfl) (by kernel_rfl) (fun _ _ _ h => h) (Or.inl ⟨by kernel_rfl, fun W hW => exec_move W _ _ _ rfl _ (by kernel_rfl)⟩) HT7.out.tal ?_
              try simp only [Act.put, List.getElem_toArray, List.getElem_cons_succ, List.getElem_cons_zero, List.setIfInBounds_toArray, List.set_cons_zero, List.set_cons_succ]
              refine wpAnyH_take (i := 4) (v := undef) rfl (by kernel_rfl) (by kernel_rfl) (by kernel_rfl) (fun _ _ _ h => h) (Or.inr ⟨by kernel_rfl, rfl⟩) HT7.out.tal ?_
              try simp only [Act.put, List.getElem_toArray, List.getElem_cons_succ, List.getElem_cons_zero, List.setIfInBounds_toArray, List.set_cons_zero, List.set_cons_succ]
              refine wpAnyH_take (i := 5) (v := undef) rfl (by kernel_rfl) (by kernel_rfl) (by kernel_rfl) (fun _ _ _ h => h) (Or.inr ⟨by kernel_rfl, rfl⟩) HT7.out.tal ?_
              try simp only [Act.put, List.getElem_toArray, List.getElem_cons_succ, List.getElem_cons_zero, List.setIfInBounds_toArray, List.set_cons_zero, List.set_cons_succ]
              refine wpAnyH_take (i := 6) (v := .bool false) rfl (by kernel_rfl) (by kernel_rfl) (by kernel_rfl) (fun _ _ _ h => h) (Or.inl ⟨by kernel_rfl, fun W hW => exec_pick W _ _ _ _ _ rfl false (by kernel_rfl) _ (by kernel_rfl)⟩) HT7.out.tal ?_
              try simp only [Act.put, List.getElem_toArray, List.getElem_cons_succ, List.getElem_cons_zero, List.setIfInBounds_toArray, List.set_cons_zero, List.set_cons_succ]
              refine wpAnyH_take (i := 7) (v := .slice (some ⟨be, 0, none⟩) S.length S.length) rfl (by kernel_rfl) (by kernel_rfl) (by kernel_rfl) (fun _ _ _ h => h) (Or.inl ⟨by kernel_rfl, fun W hW => exec_assign W _ _ _ rfl _ (by kernel_rfl)⟩) HT7.out.tal ?_
              try simp only [Act.put, List.getElem_toArray, List.getElem_cons_succ, List.getElem_cons_zero, List.setIfInBounds_toArray, List.set_cons_zero, List.set_cons_succ]
              refine wpAnyH_take (i := 8) (v := .bool false) rfl (by kernel_rfl) (by kernel_rfl) (by kernel_rfl) (fun _ _ _ h => h) (Or.inl ⟨by kernel_rfl, fun W hW => exec_assign W _ _ _ rfl _ (by kernel_rfl)⟩) HT7.out.tal ?_
              try simp only [Act.put, List.getElem_toArray, List.getElem_cons_succ, List.getElem_cons_zero, List.setIfInBounds_toArray, List.set_cons_zero, List.set_cons_succ]
              refine wpAnyH_done (by kernel_rfl) ?_ _
              go_wp2_with fail
              go_ret2
              exact ⟨_, _, rfl, HT7.out.old, (fun h => by cases h), fun h => (Hno.out h).elim⟩
end Go.Proofs.Ytbkedgpligcicaa

namespace Go.Proofs.Ytbkedgpligcicaa
open Go Go.RowKit
set_option linter.unusedVariables false

/-! The program's way to what ReadDict tells. -/
theorem readD_ok {bs : List UInt8} {S : List St} {E : List Nat} (h : rdI bs = some S) (hE : EndOK S E) : readD bs = some (((valE E 0 : Nat) : Int), S.map (ahdS E)) := by
  obtain ⟨ts, hd⟩ := hE.dict
  refine readD_impl h hd ?_
  show (S.map (ahdS E)).map bareS = S
  rw [show (S.map (ahdS E)).map bareS = S.map bareS from ahdS_like E S]
  exact (rdI_inv h).2.2.2
theorem readD_notMust {bs : List UInt8} {S : List St} (h : rdI bs = some S) (hM : ¬ Must S) : readD bs = none := by
  refine readD_impl_bad h fun d ts hd he => hM ?_
  have hL : Like d.2 S := by
    show d.2.map bareS = S.map bareS
    rw [he, (rdI_inv h).2.2.2]
  exact hL.must (c := d.1) hd
/-- What ReadDict answers. -/
noncomputable def readO (bs : List UInt8) : (Int × List St) × Int :=
  if 1048576 < bs.length then ((0, []), 2) else match readD bs with
  | none => ((0, []), 15)
  | some d => (d, 0)
end Go.Proofs.Ytbkedgpligcicaa

namespace Go.Proofs.Ytbkedgpligcicaa
open Go Go.RowKit
set_option linter.unusedVariables false

/-! The spec's way to what ReadDict tells. -/
theorem fine_of {S : List St} (h : ∀ s ∈ S, FitS S.length s) : Fine S := fun i hi => by
  have hs : arcsAt S i = S[i].2 := by simp [arcsAt, hi]
  have h1 := h S[i] (List.getElem_mem hi)
  rw [hs]
  refine ⟨h1.1, fun a ha => ?_⟩
  obtain ⟨a1, a2, a3, a4⟩ := h1.2 a ha
  exact ⟨a1, by omega, a3, by omega⟩
theorem Like.fine {S S' : List St} (h : Like S S') (hf : Fine S) : Fine S' := fun i hi => by
  have hl := h.len
  have h1 := hf i (by omega)
  have e := congrArg List.length (h.arcs i)
  simp only [List.length_map] at e
  refine ⟨by omega, fun a ha => ?_⟩
  obtain ⟨b, hb, e1, e2⟩ := h.symm.mem ha
  obtain ⟨a1, a2, a3, a4⟩ := h1.2 b hb
  unfold ArcIn
  rw [e1, e2]
  exact ⟨a1, a2, a3, by omega⟩
theorem Like.says {S S' : List St} (h : Like S S') {x : Int} (hx : CntSays S x) : CntSays S' x := fun e g hs hf hg => hx e g (h.symm.sane hs) (h.symm.fine hf) hg
theorem Like.langF {S S' : List St} (h : Like S S') (f i : Nat) : langF S f i = Go.Proofs.Ytbkedgpligcicaa.langF S' f i := by
  rw [← langF_bare S, ← langF_bare S', h]
/-- A dictionary whose bytes these are is told by the states that are read. -/
theorem rdP_like {bs : List UInt8} {S : List St} (h : rdP bs = some S) {d : Int × List St} {ts : List Tx} (hd : IsDict d ts) (hb : bytesD d.2 = bs) : Like d.2 S := by
  have h1 := IsDict.rdP (c := d.1) (S := d.2) hd
  rw [hb, h] at h1
  show d.2.map bareS = S.map bareS
  rw [(rdP_inv h).2.2.2.1]
  exact (Option.some.inj h1).symm
theorem readD_count {bs : List UInt8} {S : List St} (h : rdP bs = some S) (h1 : 1 < S.length) {x : Int} (hx : CntSays S x) (hbad : x = 0 ∨ 4096 < x) : readD bs = none := readD_none fun d ts hd hb => by
  have hL := rdP_like h hd hb
  have hne : ts ≠ [] := by
    rintro rfl
    have e := IsDict.none.1 hd
    have := hL.len
    rw [e] at this
    simp at this
    omega
  obtain ⟨a1, a2, _⟩ := says_dict (hL.symm.says hx) (c := d.1) hd hne
  rcases hbad with h | h
  · exact a1 h
  · omega
theorem rdP_first {bs : List UInt8} {S : List St} (h : rdP bs = some S) {F : List St} (hF : F.length ≤ 300000) (hb : bytesD F = bs) : F.length ≤ 16384 := by
  have e0 : bytesD F = putL F.length ++ (F.flatMap stB ++ four (sumL (dB F))) := by
    show dB F ++ _ = _
    rw [← List.append_assoc]; rfl
  have hg := getL_put F.length (F.flatMap stB ++ four (sumL (dB F))) (by omega)
  rw [← e0, hb] at hg
  unfold rdP at h
  rw [hg, Option.bind_some] at h
  by_cases hc : 1 ≤ F.length ∧ F.length ≤ 16384
  · exact hc.2
  · rw [if_neg hc] at h; cases h
theorem readD_bad {bs : List UInt8} {S : List St} (h : rdP bs = some S) {f : Nat} (hf : 65 ≤ f) (hbad : ¬ GoodT (langF S f 0)) : readD bs = none := readD_none fun d ts hd hb => by
  refine hbad ?_
  rw [← (rdP_like h hd hb).langF f 0, IsDict.big (c := d.1) hd hf]
  exact hd.1
theorem readD_build {bs : List UInt8} {S : List St} (h : rdP bs = some S) {f : Nat} (hf : 65 ≤ f) {L : List Tx} (hL : langF S f 0 = L) (hg : GoodT L) {ord : List (List Tx)} (ho : IsBfs nextT L ord) (hn : ord.length ≤ 300000) : (bytesD (dictOf L ord).2 = bs → readD bs = some (dictOf L ord)) ∧ (bytesD (dictOf L ord).2 ≠ bs → readD bs = none) := by
  refine ⟨fun hb => ?_, fun hb => readD_none fun d ts hd hbd => hb ?_⟩
  · have hl := rdP_first h (F := (dictOf L ord).2) (by show (ord.map _).length ≤ _; rw [List.length_map]; exact hn) hb
    have hl : ord.length ≤ 16384 := by
      have : (ord.map (stOf ord)).length ≤ 16384 := hl
      rwa [List.length_map] at this
    exact readD_some (d := dictOf L ord) (ts := L) ⟨hg, ord, ho, hl, rfl⟩ hb
  · have e1 : ts = L := by rw [← hL, ← (rdP_like h hd hbd).langF f 0, IsDict.big (c := d.1) hd hf]
    subst e1
    obtain ⟨_, ord', ho', _, e2⟩ := hd
    rw [← hbd, e2, ho.uniq ho']
/-- One state that is read tells of no terms. -/
theorem readD_one {bs : List UInt8} {S : List St} (h : rdP bs = some S) (h1 : S.length = 1) {ord : List (List Tx)} (ho : IsBfs nextT [] ord) (hn : ord.length ≤ 300000) : (bytesD (dictOf [] ord).2 = bs → readD bs = some (dictOf [] ord)) ∧ (bytesD (dictOf [] ord).2 ≠ bs → readD bs = none) := by
  have hg : GoodT [] := ⟨List.Pairwise.nil, by simp, fun t ht => by simp at ht⟩
  refine ⟨fun hb => ?_, fun hb => readD_none fun d ts hd hbd => hb ?_⟩
  · have hl := rdP_first h (F := (dictOf [] ord).2) (by show (ord.map _).length ≤ _; rw [List.length_map]; exact hn) hb
    have hl : ord.length ≤ 16384 := by
      have : (ord.map (stOf ord)).length ≤ 16384 := hl
      rwa [List.length_map] at this
    exact readD_some (d := dictOf [] ord) (ts := []) ⟨hg, ord, ho, hl, rfl⟩ hb
  · have hlen := (rdP_like h hd hbd).len
    have e1 : ts = [] := by
      have hm := IsDict.must (c := d.1) hd
      have hd1 : d.2.length = 1 := by omega
      have ha : arcsAt d.2 0 = [] := by
        rcases hm.2.2 with ⟨_, h3⟩ | ⟨⟨e, g, hs⟩, _⟩
        · exact h3
        · refine List.eq_nil_iff_forall_not_mem.2 fun a ha => ?_
          have q1 := hs.long 0 (by omega) a ha
          have q2 := ((IsDict.small (c := d.1) hd 0 (by omega)).2 a ha).2.2.2
          rw [show a.2.1.toNat = 0 by omega] at q1
          omega
      exact (one_dict (c := d.1) hd1 hm.2.1 (by rw [ha]; rfl) hd).1
    subst e1
    obtain ⟨_, ord', ho', _, e2⟩ := hd
    rw [← hbd, e2, ho.uniq ho']
end Go.Proofs.Ytbkedgpligcicaa

namespace Go.Proofs.Ytbkedgpligcicaa
open Go Go.RowKit
set_option linter.unusedVariables false
set_option maxRecDepth 100000

/-- States in a row of one's own, their arcs in blocks of their own: all of it between lo and hi. -/
structure StsAt (W : World) (lo hi : Nat) (v : Value) (S : List St) (xs : List Value) : Prop where
  le : hi ≤ W.heap.size
  row : W.ownsRow lo 82 2 v S.length xs
  own : ∀ b, v.ownBlock = some b → b < hi
  sts : ∀ j, j < S.length → xs[j * 2]? = some (.bool (S.getD j st0).1) ∧ ∃ aj cj, xs[j * 2 + 1]? = some (.slice aj (S.getD j st0).2.length cj) ∧ HoldA W aj (S.getD j st0).2 ∧ ∀ b off, aj = some ⟨b, off, none⟩ → lo ≤ b ∧ b < hi ∧ ∃ cur, W.heap[b]? = some (.cells cur 85)
theorem StsAt.nil (W : World) (lo : Nat) : StsAt W lo W.heap.size (.slice none 0 0) [] [] := ⟨Nat.le_refl _, World.ownsRow_nil _ _ _ _, (fun b hb => by cases hb), fun j hj => by simp at hj⟩
theorem StsAt.keep {W W' : World} {lo hi : Nat} {v : Value} {S : List St} {xs : List Value} (h : StsAt W lo hi v S xs) (hz : W.heap.size ≤ W'.heap.size) (hk : ∀ b, lo ≤ b → b < hi → W'.heap[b]? = W.heap[b]?) : StsAt W' lo hi v S xs := by
  refine ⟨Nat.le_trans h.le hz, own_congr h.row fun b hb => hk b (own_blk h.row hb).1 (h.own b hb), h.own, fun j hj => ?_⟩
  obtain ⟨q1, aj, cj, q2, q3, q4⟩ := h.sts j hj
  refine ⟨q1, aj, cj, q2, q3.keep hz fun b off e _ => hk b (q4 b off e).1 (q4 b off e).2.1, fun b off e => ?_⟩
  obtain ⟨r1, r2, cur, r3⟩ := q4 b off e
  exact ⟨r1, r2, cur, (hk b r1 r2).trans r3⟩
theorem StsAt.push {W V w6 : World} {lo hi lo2 g6 cp6 : Nat} {v va : Value} {S : List St} {xs : List Value} {f : Bool} {l : List Ar} (h : StsAt W lo hi v S xs) (hlo : lo ≤ lo2) (harow : W.ownsRow lo2 85 3 va l.length (aC l)) (hV : Below W.heap.size W V)
    (hown : w6.ownsRow lo 82 2 (.slice (some ⟨g6, 0, none⟩) (S.length + 1) cp6) (S.length + 1) (xs ++ [.bool f, va])) (hg : V.grownBy w6 v.ownBlock) :
    StsAt w6 lo w6.heap.size (.slice (some ⟨g6, 0, none⟩) (S.length + 1) cp6) (S ++ [(f, l)]) (xs ++ [.bool f, va]) := by
  have hsz : W.heap.size ≤ w6.heap.size := Nat.le_trans hV.size hg.size
  have hkeep : ∀ (b : Nat) (cs : Array Value), W.heap[b]? = some (Obj.cells cs 85) → w6.heap[b]? = W.heap[b]? := fun b cs hb => by
    have hbl := (Array.getElem?_eq_some_iff.1 hb).1
    have hVs := hV.size
    rw [hg.block b (by omega) (fun e => by
      obtain ⟨h5, cur, hc⟩ := own_blk h.row e.symm
      exact blk_ne hb hc (by decide) rfl), hV.block b hbl]
  have hxl : xs.length = S.length * 2 := h.row.1
  obtain ⟨av, cv, hvv, hHA, hHb⟩ := holdA_of harow
  have hgl : ∀ b, (Value.slice (some ⟨g6, 0, none⟩) (S.length + 1) cp6).ownBlock = some b → b < w6.heap.size := fun b hb => by
    obtain ⟨_, cur, hc⟩ := own_blk hown hb
    exact (Array.getElem?_eq_some_iff.1 hc).1
  refine ⟨Nat.le_refl _, by simpa using hown, hgl, fun j hj => ?_⟩
  have hj' : j < S.length + 1 := by simpa using hj
  by_cases e : j < S.length
  · obtain ⟨q1, a, c, q2, q3, q4⟩ := h.sts j e
    have eS : (S ++ [(f, l)]).getD j st0 = S.getD j st0 := by simp [List.getD_eq_getElem?_getD, List.getElem?_append_left e]
    rw [eS, List.getElem?_append_left (by omega), List.getElem?_append_left (by omega)]
    refine ⟨q1, a, c, q2, q3.keep hsz fun b off e _ => ?_, fun b off e => ?_⟩
    · obtain ⟨_, _, cur, hc⟩ := q4 b off e
      exact hkeep b cur hc
    · obtain ⟨q5, q6, cur, hc⟩ := q4 b off e
      exact ⟨q5, by have := h.le; omega, cur, (hkeep b cur hc).trans hc⟩
  · obtain rfl : j = S.length := by omega
    have eS : (S ++ [(f, l)]).getD S.length st0 = (f, l) := by simp
    rw [eS, List.getElem?_append_right (by omega), List.getElem?_append_right (by omega), show S.length * 2 - xs.length = 0 from by omega, show S.length * 2 + 1 - xs.length = 1 from by omega]
    refine ⟨rfl, av, cv, by rw [hvv]; rfl, hHA.keep hsz fun b off e _ => ?_, fun b off e => ?_⟩
    · have hb : va.ownBlock = some b := by rw [hvv, e]; rfl
      obtain ⟨_, cur, hc⟩ := own_blk harow hb
      exact hkeep b cur hc
    · have hb : va.ownBlock = some b := by rw [hvv, e]; rfl
      obtain ⟨q5, cur, hc⟩ := own_blk harow hb
      exact ⟨by omega, by have := (Array.getElem?_eq_some_iff.1 hc).1; omega, cur, (hkeep b cur hc).trans hc⟩
/-- What lies so is held. -/
theorem StsAt.hold {W : World} {lo hi : Nat} {v : Value} {S : List St} {xs : List Value} (h : StsAt W lo hi v S xs) : ∃ a c, v = .slice a S.length c ∧ HoldS W a S := by
  rcases h.row.2 with ⟨h0, h1⟩ | ⟨g, cap, cur, e, hg, hcur, _⟩
  · exact ⟨none, 0, by rw [h0, h1], Or.inl (List.length_eq_zero_iff.1 h1)⟩
  · have hrow := h.row
    rw [e] at hrow
    refine ⟨some ⟨g, 0, none⟩, cap, e, Or.inr ⟨g, 0, rfl, (Array.getElem?_eq_some_iff.1 hcur).1, fun j hj => ?_⟩⟩
    obtain ⟨q1, aj, cj, q2, q3, _⟩ := h.sts j hj
    rw [Nat.zero_add]
    exact ⟨by rw [hrow.cellAt (j * 2) (by omega)]; exact q1, aj, cj, by rw [hrow.cellAt (j * 2 + 1) (by omega)]; exact q2, q3⟩
end Go.Proofs.Ytbkedgpligcicaa

namespace Go.Proofs.Ytbkedgpligcicaa
open Go Go.RowKit
set_option linter.unusedVariables false
set_option maxHeartbeats 1000000 in
/-- spec's l03Get at a place: what stands there. -/
theorem specGet_any (b off cap k : Nat) (bs : List UInt8) (w : World) (hl : bs.length ≤ 1048576) (hk : k ≤ bs.length) (hc : BytesAt w b off bs) :
    Calls Try.prog 91 #[.slice (some ⟨b, off, none⟩) bs.length cap, .int .i64 (k : Int)] w fun e w' => (∃ m, w' = w.drewN m) ∧
      ((getL (bs.drop k) = none ∧ ∃ x y : Int, e = .returned (.tuple #[.int .i64 x, .int .i64 y, .bool false])) ∨ ∃ v s, getL (bs.drop k) = some (v, s) ∧ e = .returned (.tuple #[.int .i64 (v : Int), .int .i64 ((k : Int) + (s : Int)), .bool true])) := by
  have Hc := hidd hc
  clear hc
  go_enter Try.func91, Try.ntmps91
  go_wp2
  go_loop [7, 8, 9] (fun vv uu nn => ∃ j y U : Nat, j ≤ 8 ∧ k + j ≤ bs.length ∧ nn = .int .i64 j ∧ vv = .int .i64 (y : Int) ∧ uu = .int .i64 (U : Int) ∧ U = 128 ^ j ∧ y < 128 ^ j ∧ getL (bs.drop k) = getGo (bs.drop (k + j)) j y) (fun _ _ nn => 9 - (intOf nn).toNat)
  case atStart => exact ⟨0, 0, 1, by omega, by omega, rfl, rfl, rfl, rfl, by omega, rfl⟩
  case round =>
    obtain ⟨j, y, U, hj, hkj, rfl, rfl, rfl, hU, hy, hget⟩ := hrel
    have hU8 : U ≤ 72057594037927936 := by rw [hU]; have := Nat.pow_le_pow_right (n := 128) (by omega) hj; omega
    have hyU : y < U := by omega
    have HG := hidd hget
    have HU := hidd hU
    clear hget hU hy
    have hj9 : (j : Int) < 9 := by omega
    by_cases hlt : k + j < bs.length
    · have hlz : (k : Int) + (j : Int) < (bs.length : Int) := by omega
      have g1 := Hc.out (k + j) hlt
      have hc256 : (bs.getD (k + j) 0).toNat < 256 := UInt8.toNat_lt _
      have Hd : Hid (bs.drop (k + j) = bs.getD (k + j) 0 :: bs.drop (k + j + 1)) := by show _ = _; rw [List.drop_eq_getElem_cons hlt]; simp [hlt]
      generalize hcc : bs.getD (k + j) 0 = cb at *
      clear hcc
      obtain ⟨T, hT⟩ : ∃ T : Nat, T = cb.toNat % 128 * U := ⟨_, rfl⟩
      have hTle : T ≤ 127 * U := by rw [hT]; exact Nat.mul_le_mul_right _ (by omega)
      have hTz : (cb.toNat : Int) % 128 * (U : Int) = (T : Int) := by rw [hT]; simp
      have HT := hidd hT
      clear hT
      by_cases h8 : j = 8 ∧ 63 < cb.toNat
      · obtain ⟨h8, h63⟩ := h8
        have hb8 : ((j : Int) == 8) = true := by simp; omega
        have h63z : (63 : Int) < (cb.toNat : Int) := by omega
        have HN : Hid (getL (bs.drop k) = none) := by show _ = _; rw [HG.out, Hd.out, getGo, if_pos (Or.inr ⟨h8, h63⟩)]
        clear h8
        go_wp2
        go_ret3
        exact ⟨⟨0, rfl⟩, Or.inl ⟨HN.out, _, _, rfl⟩⟩
      · have HS : Hid (cb.toNat < 128 → (j = 0 ∨ 0 < cb.toNat) → getL (bs.drop k) = some (y + T, j + 1)) := by
          intro h1 h2
          rw [HG.out, Hd.out, getGo, if_neg (by omega), if_pos h1, if_pos h2, HT.out, HU.out]
        have HN : Hid (cb.toNat < 128 → ¬ (j = 0 ∨ 0 < cb.toNat) → getL (bs.drop k) = none) := by
          intro h1 h2
          rw [HG.out, Hd.out, getGo, if_neg (by omega), if_pos h1, if_neg h2]
        have HX : Hid (¬ cb.toNat < 128 → getL (bs.drop k) = getGo (bs.drop (k + (j + 1))) (j + 1) (y + T)) := by
          intro h1
          rw [HG.out, Hd.out, getGo, if_neg (by omega), if_neg h1, HT.out, HU.out, Nat.add_assoc]
        have Hn8 : Hid (¬ (j = 8 ∧ 63 < cb.toNat)) := h8
        clear h8 Hd HG
        by_cases hj8 : j = 8
        · have h63 : cb.toNat ≤ 63 := by have := Hn8.out; omega
          have hb8 : ((j : Int) == 8) = true := by simp; omega
          have hcz : ¬ (63 : Int) < (cb.toNat : Int) := by omega
          have hc128 : (cb.toNat : Int) < 128 := by omega
          have hb0 : ((j : Int) == 0) = false := by simp; omega
          have hTle' : T ≤ 63 * U := by rw [HT.out]; exact Nat.mul_le_mul_right _ (by omega)
          by_cases hc0 : 0 < cb.toNat
          · have hc0z : (0 : Int) < (cb.toNat : Int) := by omega
            have HE := hidd (HS.out (by omega) (Or.inr hc0))
            clear hj8
            go_wp2
            go_ret3
            refine ⟨⟨0, rfl⟩, Or.inr ⟨y + T, _, HE.out, ?_⟩⟩
            congr 3
            try (simp; try omega)
          · have hc0z : ¬ (0 : Int) < (cb.toNat : Int) := by omega
            have HE := hidd (HN.out (by omega) (by omega))
            clear hj8
            go_wp2
            go_ret3
            exact ⟨⟨0, rfl⟩, Or.inl ⟨HE.out, _, _, rfl⟩⟩
        · have hb8 : ((j : Int) == 8) = false := by simp; omega
          by_cases hc128 : cb.toNat < 128
          · have hc128z : (cb.toNat : Int) < 128 := by omega
            by_cases hj0 : j = 0
            · have HE := hidd (HS.out hc128 (Or.inl hj0))
              have hb0 : ((j : Int) == 0) = true := by simp; omega
              clear hj0
              go_wp2
              go_ret3
              refine ⟨⟨0, rfl⟩, Or.inr ⟨y + T, _, HE.out, ?_⟩⟩
              congr 3
              try (simp; try omega)
            · have hb0 : ((j : Int) == 0) = false := by simp; omega
              by_cases hc0 : 0 < cb.toNat
              · have hc0z : (0 : Int) < (cb.toNat : Int) := by omega
                have HE := hidd (HS.out (by omega) (Or.inr hc0))
                go_wp2
                go_ret3
                refine ⟨⟨0, rfl⟩, Or.inr ⟨y + T, _, HE.out, ?_⟩⟩
                congr 3
                try (simp; try omega)
              · have hc0z : ¬ (0 : Int) < (cb.toNat : Int) := by omega
                have HE := hidd (HN.out (by omega) (by omega))
                go_wp2
                go_ret3
                exact ⟨⟨0, rfl⟩, Or.inl ⟨HE.out, _, _, rfl⟩⟩
          · have hc128z : ¬ (cb.toNat : Int) < 128 := by omega
            have hjlt : (j : Int) < 8 := by omega
            have hU7 : U ≤ 562949953421312 := by rw [HU.out]; have := Nat.pow_le_pow_right (n := 128) (i := j) (j := 7) (by omega) (by omega); omega
            have HE := hidd (HX.out hc128)
            go_wp2
            go_round
            case rel =>
              refine ⟨j + 1, y + T, U * 128, by omega, by omega, by go_num, by go_num, by go_num, by rw [HU.out, Nat.pow_succ], ?_, HE.out⟩
              rw [Nat.pow_succ, ← HU.out]; omega
            case measure => simp [intOf]; omega
    · have hlz : ¬ (k : Int) + (j : Int) < (bs.length : Int) := by omega
      have HN : Hid (getL (bs.drop k) = none) := by show _ = _; rw [HG.out, List.drop_of_length_le (by omega)]; rfl
      go_wp2
      go_ret3
      exact ⟨⟨0, rfl⟩, Or.inl ⟨HN.out, _, _, rfl⟩⟩
end Go.Proofs.Ytbkedgpligcicaa
