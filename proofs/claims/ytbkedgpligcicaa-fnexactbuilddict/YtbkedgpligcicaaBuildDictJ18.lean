import Derived.Test.YtbkedgpligcicaaBuildDictJ15
import Derived.Test.YtbkedgpligcicaaBuildDictJ17
import Derived.Test.YtbkedgpligcicaaBuildDictJ08
import Derived.OrdersHeld
import Derived.Deep.AppendLies
import Derived.Deep.RegionLaw
namespace Go.Proofs.Ytbkedgpligcicaa
open Go Go.RowKit
set_option linter.unusedVariables false

/-! What the checks tell does not reach the Aheads. -/
def Like (S S' : List St) : Prop := S.map bareS = S'.map bareS
theorem Like.symm {S S' : List St} (h : Like S S') : Like S' S := Eq.symm h
theorem Like.len {S S' : List St} (h : Like S S') : S.length = S'.length := by have := congrArg List.length h; simpa using this
theorem Like.at {S S' : List St} (h : Like S S') (i : Nat) : bareS (S.getD i st0) = bareS (S'.getD i st0) := by
  rw [← getD_bare, ← getD_bare, h]
theorem Like.fin {S S' : List St} (h : Like S S') (i : Nat) : finAt S i = finAt S' i := by
  show (bareS (S.getD i st0)).1 = (bareS (S'.getD i st0)).1
  rw [h.at i]
theorem Like.arcs {S S' : List St} (h : Like S S') (i : Nat) : (arcsAt S i).map bareA = (arcsAt S' i).map bareA := by
  show (bareS (S.getD i st0)).2 = (bareS (S'.getD i st0)).2
  rw [h.at i]
theorem Like.mem {S S' : List St} (h : Like S S') {i : Nat} {a : Ar} (ha : a ∈ arcsAt S i) : ∃ b ∈ arcsAt S' i, a.1 = b.1 ∧ a.2.1 = b.2.1 := by
  have h1 : bareA a ∈ (arcsAt S' i).map bareA := by rw [← h.arcs i]; exact List.mem_map_of_mem ha
  obtain ⟨b, hb, e⟩ := List.mem_map.1 h1
  exact ⟨b, hb, (congrArg Prod.fst e).symm, (congrArg (fun x => x.2.1) e).symm⟩
theorem sumE_bare (e : Nat → Nat) (l : List Ar) : sumE e (l.map bareA) = sumE e l := by
  unfold sumE
  rw [List.map_map]; rfl
theorem Like.sum {S S' : List St} (h : Like S S') (e : Nat → Nat) (i : Nat) : sumE e (arcsAt S i) = sumE e (arcsAt S' i) := by
  rw [← sumE_bare, h.arcs i, sumE_bare]
theorem lks_bare (l : List Ar) : (l.map bareA).map lkOf = l.map lkOf := by rw [List.map_map]; rfl
theorem Like.lks {S S' : List St} (h : Like S S') (i : Nat) : lks S i = Go.Proofs.Ytbkedgpligcicaa.lks S' i := by
  show (arcsAt S i).map lkOf = (arcsAt S' i).map lkOf
  rw [← lks_bare, h.arcs i, lks_bare]
theorem Like.diff {S S' : List St} (h : Like S S') {n : Nat} (hd : DiffP S n) : DiffP S' n := fun i j hi hj h1 h2 => hd i j hi hj (by rw [h.fin, h.fin]; exact h1) (by rw [h.lks, h.lks]; exact h2)
theorem Like.sane {S S' : List St} (h : Like S S') {e g : Nat → Nat} (hs : Sane S e g) : Sane S' e g := by
  have hl := h.len
  refine ⟨fun i hi => ?_, fun i hi => hs.least i (by omega), fun i hi => hs.most i (by omega), fun i hi a ha => ?_, fun i hi => hs.deep i (by omega)⟩
  · rw [← h.fin, ← h.sum]; exact hs.ends i (by omega)
  · obtain ⟨b, hb, _, e2⟩ := h.symm.mem ha
    rw [e2]; exact hs.long i (by omega) b hb
theorem Like.tal {S S' : List St} (h : Like S S') {E G : List Nat} (ht : TalOK S E G) : TalOK S' E G := by
  have hl := h.len
  refine ⟨by rw [ht.lenE, hl], by rw [ht.lenG, hl], fun i hi hp => ?_, fun i hi hp => ht.most i (by omega) hp, fun i hi hp a ha => ?_⟩
  · rw [← h.fin, ← h.sum]; exact ht.ends i (by omega) hp
  · obtain ⟨b, hb, _, e2⟩ := h.symm.mem ha
    rw [e2]; exact ht.next i (by omega) hp b hb
theorem arcGo_bare (n : Nat) : ∀ (l : List Ar) (m : Nat) (last : Int), arcGo n m last (l.map bareA) = arcGo n m last l
  | [], m, last => rfl
  | a :: t, m, last => by
    rw [List.map_cons, arcGo, arcGo, arcGo_bare n t]; rfl
theorem metGo_bare (n : Nat) : ∀ (S : List St) (i m : Nat), metGo n i m (S.map bareS) = metGo n i m S
  | [], i, m => rfl
  | s :: t, i, m => by
    rw [List.map_cons, metGo, metGo]
    show (if i = m then false else match arcGo n m (-1) (s.2.map bareA) with | none => false | some m => metGo n (i + 1) m (t.map bareS)) = _
    rw [arcGo_bare]
    split
    · rfl
    · cases arcGo n m (-1) s.2 with
      | none => rfl
      | some m' => exact metGo_bare n t _ _
theorem Like.met {S S' : List St} (h : Like S S') : metOK S = metOK S' := by
  unfold metOK
  rw [← metGo_bare S.length S, ← metGo_bare S'.length S', h, h.len]
theorem Like.none {S S' : List St} (h : Like S S') {i : Nat} (ha : arcsAt S i = []) : arcsAt S' i = [] := by
  have := h.arcs i
  rw [ha] at this
  exact List.map_eq_nil_iff.1 this.symm
theorem Like.end {S S' : List St} (h : Like S S') {E : List Nat} (hE : EndOK S E) : EndOK S' E := by
  have hl := h.len
  refine ⟨by rw [hE.len, hl], by rw [← h.met]; exact hE.met, by rw [← h.fin]; exact hE.fin0, ?_⟩
  rcases hE.ends with ⟨h1, h2, h3⟩ | ⟨G, hT, h0, hD, hA⟩
  · exact Or.inl ⟨by omega, h.none h2, h3⟩
  · refine Or.inr ⟨G, h.tal hT, h0, by rw [← hl]; exact h.diff hD, fun e g hs => ?_⟩
    have := hA e g (h.symm.sane hs)
    intro i hi hp
    exact this i (by omega) hp
/-- A state's arcs with the Aheads that they must have. -/
def ahdA (E : List Nat) : Nat → List Ar → List Ar
  | _, [] => []
  | n, a :: t => (a.1, a.2.1, (n : Int)) :: ahdA E (n + valE E a.2.1.toNat) t
def ahdS (E : List Nat) (s : St) : St := (s.1, ahdA E (if s.1 then 1 else 0) s.2)
theorem ahdA_bare (E : List Nat) : ∀ (l : List Ar) (n : Nat), (ahdA E n l).map bareA = l.map bareA
  | [], n => rfl
  | a :: t, n => by rw [ahdA, List.map_cons, List.map_cons, ahdA_bare E t]; rfl
theorem ahdS_like (E : List Nat) (S : List St) : Like (S.map (ahdS E)) S := by
  unfold Like
  rw [List.map_map]
  exact List.map_congr_left fun s _ => by
    show (s.1, (ahdA E _ s.2).map bareA) = (s.1, s.2.map bareA)
    rw [ahdA_bare]
theorem ahdA_at (E : List Nat) : ∀ (l : List Ar) (n k : Nat) (a : Ar), (ahdA E n l)[k]? = some a → a.2.2 = ((n + sumE (valE E) (l.take k) : Nat) : Int)
  | [], n, k, a, h => by simp [ahdA] at h
  | b :: t, n, 0, a, h => by
    simp only [ahdA, List.getElem?_cons_zero, Option.some.injEq] at h
    subst h
    simp [sumE]
  | b :: t, n, k + 1, a, h => by
    simp only [ahdA, List.getElem?_cons_succ] at h
    rw [ahdA_at E t _ k a h]
    simp [sumE]; omega
theorem getD_ahd (E : List Nat) (S : List St) {i : Nat} (hi : i < S.length) : (S.map (ahdS E)).getD i st0 = ahdS E (S.getD i st0) := by
  simp [List.getD_eq_getElem?_getD, hi]
theorem sumE_like (e : Nat → Nat) {l l' : List Ar} (h : l.map bareA = l'.map bareA) (k : Nat) : sumE e (l.take k) = sumE e (l'.take k) := by
  rw [← sumE_bare, List.map_take, h, ← List.map_take, sumE_bare]
/-- States that pass the checks, with their Aheads, are a dictionary. -/
theorem EndOK.dict {S : List St} {E : List Nat} (h : EndOK S E) : ∃ ts, IsDict (((valE E 0 : Nat) : Int), S.map (ahdS E)) ts := by
  have hL := ahdS_like E S
  refine (okD_iff (hL.symm.end h)).2 ⟨rfl, fun i hi k a ha => ?_⟩
  have hi' : i < S.length := by simpa using hi
  have e1 : arcsAt (S.map (ahdS E)) i = ahdA E (if (S.getD i st0).1 then 1 else 0) (S.getD i st0).2 := by
    rw [arcsAt, getD_ahd E S hi']; rfl
  have e2 : finAt (S.map (ahdS E)) i = (S.getD i st0).1 := by
    rw [finAt, getD_ahd E S hi']; rfl
  have h1 := ahdA_at E _ _ k a (e1 ▸ ha)
  rw [h1, ahN, e2, sumE_like (valE E) (hL.arcs i) k]
  rfl
theorem Like.must {S S' : List St} {c : Int} {ts : List Tx} (h : Like S S') (hd : IsDict (c, S) ts) : metOK S' = true ∧ finAt S' 0 = false ∧ ((S'.length = 1 ∧ arcsAt S' 0 = []) ∨ ((∃ e g, Sane S' e g) ∧ DiffP S' S'.length)) := by
  obtain ⟨h1, h2, h3⟩ := hd.must
  have hl := h.len
  refine ⟨by rw [← h.met]; exact h1, by rw [← h.fin]; exact h2, ?_⟩
  rcases h3 with ⟨h3, h4⟩ | ⟨⟨e, g, h3⟩, h4⟩
  · exact Or.inl ⟨by omega, h.none h4⟩
  · exact Or.inr ⟨⟨e, g, h.sane h3⟩, by rw [← hl]; exact h.diff h4⟩
end Go.Proofs.Ytbkedgpligcicaa

namespace Go.Proofs.Ytbkedgpligcicaa
open Go Go.RowKit
set_option linter.unusedVariables false
set_option linter.unusedSimpArgs false

/-- What the states of a dictionary must be, Aheads aside. -/
def Must (S : List St) : Prop := metOK S = true ∧ finAt S 0 = false ∧ ((S.length = 1 ∧ arcsAt S 0 = []) ∨ ((∃ e g, Sane S e g) ∧ DiffP S S.length))
def EndM : Prop := ∀ (a : Option Addr) (cap : Nat) (S : List St) (w : World), S.length ≤ 1048576 → (∀ i, (arcsAt S i).length ≤ 1048576) → HoldS w a S →
  Calls Try.prog 41 #[.slice a S.length cap] w fun e w' => ∃ v b, e = .returned (.tuple #[v, .bool b]) ∧ Below w.heap.size w w' ∧
    (b = true → ∃ be E, v = .slice (some ⟨be, 0, none⟩) S.length S.length ∧ w.heap.size ≤ be ∧ w'.heap[be]? = some (.cells (nCellsE E).toArray 3) ∧ EndOK S E) ∧ (Must S → b = true)
set_option maxHeartbeats 4000000 in
set_option maxRecDepth 100000 in
theorem endingsM_any : EndM := by
  intro a cap S w hn hA hS
  have HS := hidd hS
  have HA := hidd hA
  have HMet := hidd (metInOrder_any a cap S w hn hA hS)
  clear hS hA
  have hms := run_makeInts S.length (by omega)
  go_enter Try.func41, Try.ntmps41
  cases hm : metOK S with
  | false =>
    rw [hm] at HMet
    have Hno : Hid (¬ Must S) := by
      intro h
      have := h.1
      rw [hm] at this
      cases this
    clear hm
    go_wp2_with fail
    refine HMet.out.mono ?_
    rintro e w1 ⟨rfl, hb1⟩
    have HB1 := hidd hb1
    clear hb1
    go_wp2_with fail
    go_ret2
    exact ⟨_, _, rfl, HB1.out, (fun h => by cases h), fun h => (Hno.out h).elim⟩
  | true =>
    rw [hm] at HMet
    obtain ⟨hr, harcs, hbfs⟩ := (metOK_iff S).1 hm
    have Harcs := hidd harcs
    have Hbfs := hidd hbfs
    have Hm := hidd hm
    clear hm harcs hbfs
    go_wp2_with fail
    refine HMet.out.mono ?_
    rintro e w1 ⟨rfl, hb1⟩
    have HB1 := hidd hb1
    have hz1 := hb1.size
    obtain ⟨bS, oS, rfl, hbS, hst⟩ := HS.out.resolve_left (fun h => by rw [h] at hr; simp at hr)
    obtain ⟨s0, ai, ci, s1, hai⟩ := hst 0 (by omega)
    replace s0 := (hb1.cell (p := ⟨bS, oS + 0 * 2, none⟩) hbS).trans s0
    have S1w : Hid (w.cell? ⟨bS, oS + 1, none⟩ = some (.slice ai (arcsAt S 0).length ci)) := by
      have := s1
      rw [show (S.getD 0 st0).2 = arcsAt S 0 from rfl] at this
      simp only [Nat.zero_mul, Nat.add_zero] at this
      exact this
    replace s1 := (hb1.cell (p := ⟨bS, oS + 0 * 2 + 1, none⟩) hbS).trans s1
    have hfk : (S.getD 0 st0).1 = finAt S 0 := rfl
    have hak : (S.getD 0 st0).2 = arcsAt S 0 := rfl
    rw [hfk] at s0
    rw [hak] at s1
    have hS0 : (0 : Int) < (S.length : Int) := by omega
    simp only [Nat.zero_mul, Nat.add_zero] at s0 s1
    clear hst hai hb1 hfk hak HMet
    cases hf : finAt S 0 with
    | true =>
      have Hno : Hid (¬ Must S) := by
        intro h
        have := h.2.1
        rw [hf] at this
        cases this
      rw [hf] at s0
      clear hf
      go_wp2_with fail
      go_ret2
      exact ⟨_, _, rfl, HB1.out, (fun h => by cases h), fun h => (Hno.out h).elim⟩
    | false =>
      rw [hf] at s0
      have Hf := hidd hf
      clear hf
      go_upto_region 3 with fail
      go_cut [4] (fun c wy => ∃ T be bl, c = .pointer (some ⟨T, 0, none⟩) ∧ TalAt w wy T be bl (some ⟨bS, oS, none⟩) cap S (List.replicate S.length 0) (List.replicate S.length 0) ∧ w.heap.size ≤ T)
      case first =>
        go_region_law (fail)
        all_goals
          go_wp2_with fail
          go_meet
          case rel =>
            first
            | exact ⟨w1.heap.size, w1.heap.size + 1, w1.heap.size + 1 + 1, rfl, ⟨below_drewN ((((HB1.out.alloc hz1 _).alloc (by simp; omega) _).alloc (by simp; omega) _)) 1, HS.out, (box_three w1 _ _ _).1, (box_three w1 _ _ _).2.1, (box_three w1 _ _ _).2.2, ⟨by omega, by omega, by omega⟩, by omega, by omega⟩, by omega⟩
            | exact ⟨w1.heap.size, w1.heap.size + 1 + 1, w1.heap.size + 1, rfl, ⟨below_drewN ((((HB1.out.alloc hz1 _).alloc (by simp; omega) _).alloc (by simp; omega) _)) 1, HS.out, (box_three w1 _ _ _).1, (box_three w1 _ _ _).2.2, (box_three w1 _ _ _).2.1, ⟨by omega, by omega, by omega⟩, by omega, by omega⟩, by omega⟩
            | exact ⟨w1.heap.size + 1, w1.heap.size, w1.heap.size + 1 + 1, rfl, ⟨below_drewN ((((HB1.out.alloc hz1 _).alloc (by simp; omega) _).alloc (by simp; omega) _)) 1, HS.out, (box_three w1 _ _ _).2.1, (box_three w1 _ _ _).1, (box_three w1 _ _ _).2.2, ⟨by omega, by omega, by omega⟩, by omega, by omega⟩, by omega⟩
            | exact ⟨w1.heap.size + 1, w1.heap.size + 1 + 1, w1.heap.size, rfl, ⟨below_drewN ((((HB1.out.alloc hz1 _).alloc (by simp; omega) _).alloc (by simp; omega) _)) 1, HS.out, (box_three w1 _ _ _).2.1, (box_three w1 _ _ _).2.2, (box_three w1 _ _ _).1, ⟨by omega, by omega, by omega⟩, by omega, by omega⟩, by omega⟩
            | exact ⟨w1.heap.size + 1 + 1, w1.heap.size, w1.heap.size + 1, rfl, ⟨below_drewN ((((HB1.out.alloc hz1 _).alloc (by simp; omega) _).alloc (by simp; omega) _)) 1, HS.out, (box_three w1 _ _ _).2.2, (box_three w1 _ _ _).1, (box_three w1 _ _ _).2.1, ⟨by omega, by omega, by omega⟩, by omega, by omega⟩, by omega⟩
            | exact ⟨w1.heap.size + 1 + 1, w1.heap.size + 1, w1.heap.size, rfl, ⟨below_drewN ((((HB1.out.alloc hz1 _).alloc (by simp; omega) _).alloc (by simp; omega) _)) 1, HS.out, (box_three w1 _ _ _).2.2, (box_three w1 _ _ _).2.1, (box_three w1 _ _ _).1, ⟨by omega, by omega, by omega⟩, by omega, by omega⟩, by omega⟩
      case rest =>
        obtain ⟨T, be, bl, rfl, htal, hT⟩ := hcut
        have HTal := hidd htal
        have hzc : w.heap.size ≤ wc.heap.size := htal.old.size
        have t1 : wc.cell? ⟨T, 1, none⟩ = some (.slice (some ⟨be, 0, none⟩) S.length S.length) := blkc htal.tal 1
        replace s1 : wc.cell? ⟨bS, oS + 1, none⟩ = some (.slice ai (arcsAt S 0).length ci) := (htal.old.cell (p := ⟨bS, oS + 1, none⟩) hbS).trans S1w.out
        clear htal hms s0
        by_cases h1 : S.length = 1 ∧ arcsAt S 0 = []
        · obtain ⟨h1, h2⟩ := h1
          have hlb : ((S.length : Int) == 1) = true := by simp [h1]
          have hal : (((arcsAt S 0).length : Int) == 0) = true := by simp [h2]
          have H1 := hidd h1
          have H2 := hidd h2
          clear h1 h2
          go_wp2_with fail
          go_ret2
          refine ⟨_, _, rfl, HTal.out.old, ?_, fun _ => rfl⟩
          intro _
          refine ⟨be, _, rfl, HTal.out.new.1, HTal.out.rowE, by simp, Hm.out, Hf.out, Or.inl ⟨H1.out, H2.out, by rw [H1.out]; rfl⟩⟩
        · go_upto_region 4 with fail
          go_cut [32] (fun c wy => c = .bool false ∧ wy = wc)
          case first =>
            by_cases hl : S.length = 1
            · have hlb : ((S.length : Int) == 1) = true := by simp [hl]
              have h2 : arcsAt S 0 ≠ [] := fun h => h1 ⟨hl, h⟩
              have hal : (((arcsAt S 0).length : Int) == 0) = false := by
                have : (arcsAt S 0).length ≠ 0 := fun h => h2 (List.length_eq_zero_iff.1 h)
                simp
                exact h2
              have H1 := hidd h1
              clear h1 hl h2
              go_wp2_with fail
              go_meet
              case rel => exact ⟨rfl, rfl⟩
            · have hlb : ((S.length : Int) == 1) = false := by simp; omega
              have H1 := hidd h1
              clear h1 hl
              go_wp2_with fail
              go_meet
              case rel => exact ⟨rfl, rfl⟩
          case rest =>
            obtain ⟨rfl, hwc⟩ := hcut
            obtain rfl := hwc.symm
            have H1 := hidd h1
            have hC := take_any (w0 := w) (T := T) (be := be) (bl := bl) (aS := some ⟨bS, oS, none⟩) (cS := cap) (S := S) hr.2 Harcs.out HA.out 65 0 rfl
            have HC : Hid (∀ u, TalAt w u T be bl (some ⟨bS, oS, none⟩) cap S (List.replicate S.length 0) (List.replicate S.length 0) → Calls Try.prog 70 #[.pointer (some ⟨T, 0, none⟩), .int .i64 0, .int .i64 0] u fun e w' =>
                ∃ (b : Bool) (E' G' : List Nat), e = .returned (.bool b) ∧ TalAt w w' T be bl (some ⟨bS, oS, none⟩) cap S E' G' ∧ (b = true → TalOK S E' G' ∧ 0 < valE E' 0) ∧ (∀ e g, Sane S e g → b = true ∧ Agree S E' G' e g)) := by
              intro u hu
              have h := hC 0 u _ _ (by omega) hu (talOK_zero S)
              refine Calls.mono h ?_
              rintro e w' ⟨b, E', G', h1, h2, _, h3, h4⟩
              exact ⟨b, E', G', h1, h2, fun hb => ⟨(h3 hb).1, (h3 hb).2.1⟩, fun e g hs => h4 e g hs (agree_zero S _ e g) (by have := hs.deep 0 (by omega); omega)⟩
            clear hC s1 h1 hwc
            by_cases hs : ∃ e g, Sane S e g
            · have HTk : Hid (∀ u, TalAt w u T be bl (some ⟨bS, oS, none⟩) cap S (List.replicate S.length 0) (List.replicate S.length 0) → Calls Try.prog 70 #[.pointer (some ⟨T, 0, none⟩), .int .i64 0, .int .i64 0] u fun e w' =>
                  ∃ (E' G' : List Nat), e = .returned (.bool true) ∧ TalAt w w' T be bl (some ⟨bS, oS, none⟩) cap S E' G' ∧ (TalOK S E' G' ∧ 0 < valE E' 0) ∧ (∀ e g, Sane S e g → Agree S E' G' e g)) := by
                intro u hu
                refine Calls.mono (HC.out u hu) ?_
                rintro e w' ⟨b, E', G', h1, h2, h3, h4⟩
                obtain ⟨e0, g0, hs⟩ := hs
                have hb := (h4 e0 g0 hs).1
                subst hb
                exact ⟨E', G', h1, h2, h3 rfl, fun e g hs => (h4 e g hs).2⟩
              have HTd : Hid (TalAt w wc.drew T be bl (some ⟨bS, oS, none⟩) cap S (List.replicate S.length 0) (List.replicate S.length 0)) := HTal.out.below (below_drewN (Below.refl _ _) 1)
              clear hs HC
              go_wp2_with fail
              go_region_with (first
                | (go_at_call 70; refine (HTk.out _ HTd.out).mono ?_; rintro e' w7 ⟨E', G', rfl, ht7, hok7, hag7⟩; have HT7 := hidd ht7; have HOk7 := hidd hok7; have HAg7 := hidd hag7; have y1 : w7.cell? ⟨T, 1, none⟩ = some (.slice (some ⟨be, 0, none⟩) S.length S.length) := blkc ht7.tal 1; clear ht7 hok7 hag7)
                | (go_at_call 71; refine (allDiffer_any _ cap S _ hr.2 Harcs.out (HS.out.below HT7.out.old)).mono ?_; rintro e'' w8 ⟨rfl, hb8⟩; have HB8 := hidd hb8; clear hb8; have y2 : w8.cell? ⟨T, 1, none⟩ = some (.slice (some ⟨be, 0, none⟩) S.length S.length) := blkc (blko HT7.out.tal HB8.out) 1))
              all_goals
                go_wp2_with fail
                go_ret2
                refine ⟨.slice (some ⟨be, 0, none⟩) S.length S.length, diffB S, rfl, HT7.out.old.trans (HB8.out.mono HT7.out.old.size), ?_, ?_⟩
                · intro hd
                  exact ⟨be, E', rfl, HT7.out.new.1, blko HT7.out.rowE HB8.out, HOk7.out.1.lenE, Hm.out, Hf.out, Or.inr ⟨G', HOk7.out.1, HOk7.out.2, diffB_iff.1 hd, HAg7.out⟩⟩
                · intro h
                  rcases h.2.2 with h2 | h2
                  · exact absurd h2 H1.out
                  · exact diffB_yes h2.2
            · have HTk : Hid (∀ u, TalAt w u T be bl (some ⟨bS, oS, none⟩) cap S (List.replicate S.length 0) (List.replicate S.length 0) → Calls Try.prog 70 #[.pointer (some ⟨T, 0, none⟩), .int .i64 0, .int .i64 0] u fun e w' =>
                  ∃ (E' G' : List Nat), e = .returned (.bool false) ∧ TalAt w w' T be bl (some ⟨bS, oS, none⟩) cap S E' G') := by
                intro u hu
                refine Calls.mono (HC.out u hu) ?_
                rintro e w' ⟨b, E', G', h1, h2, h3, h4⟩
                cases b with
                | false => exact ⟨E', G', h1, h2⟩
                | true =>
                  obtain ⟨h5, h6⟩ := h3 rfl
                  exact absurd ⟨_, _, h5.sane (h5.ends_all h6 (by omega) (fun j hj a ha => ((Harcs.out j hj).2 a ha).2.2.2) Hbfs.out)⟩ hs
              have HTd : Hid (TalAt w wc.drew T be bl (some ⟨bS, oS, none⟩) cap S (List.replicate S.length 0) (List.replicate S.length 0)) := HTal.out.below (below_drewN (Below.refl _ _) 1)
              have Hno : Hid (¬ Must S) := by
                intro h
                rcases h.2.2 with h2 | h2
                · exact H1.out h2
                · exact hs h2.1
              clear hs HC
              go_wp2_with fail
              have HS0 : Hid (∀ u, TalAt w u T be bl (some ⟨bS, oS, none⟩) cap S (List.replicate S.length 0) (List.replicate S.length 0) → u.heap[T]? = some (.cells #[.slice (some ⟨bS, oS, none⟩) S.length cap, .slice (some ⟨be, 0, none⟩) S.length S.length, .slice (some ⟨bl, 0, none⟩) S.length S.length] 128)) := fun u h => h.tal
              refine wp_region_held (S := fun W' => W'.heap[T]? = some (.cells #[.slice (some ⟨bS, oS, none⟩) S.length cap, .slice (some ⟨be, 0, none⟩) S.length S.length, .slice (some ⟨bl, 0, none⟩) S.length S.length] 128)) (by kernel_rfl) ?_
              try simp only [Act.put, List.getElem_toArray, List.getElem_cons_succ, List.getElem_cons_zero, List.setIfInBounds_toArray, List.set_cons_zero, List.set_cons_succ]
              refine wpAnyH_take (i := 0) (v := .pointer (some ⟨T, 1, none⟩)) rfl (by kernel_rfl) (by kernel_rfl) (by kernel_rfl) (fun _ _ _ h => h) (Or.inl ⟨by kernel_rfl, fun W hW => exec_field1 W _ _ _ rfl T (by kernel_rfl)⟩) HTd.out.tal ?_
              try simp only [Act.put, List.getElem_toArray, List.getElem_cons_succ, List.getElem_cons_zero, List.setIfInBounds_toArray, List.set_cons_zero, List.set_cons_succ]
              refine wpAnyH_take (i := 1) (v := .slice (some ⟨be, 0, none⟩) S.length S.length) rfl (by kernel_rfl) (by kernel_rfl) (by kernel_rfl) (fun _ _ _ h => h) (Or.inl ⟨by kernel_rfl, fun W hW => exec_loadInts W _ _ _ rfl T 1 _ (by kernel_rfl) (blkc hW 1)⟩) HTd.out.tal ?_
              try simp only [Act.put, List.getElem_toArray, List.getElem_cons_succ, List.getElem_cons_zero, List.setIfInBounds_toArray, List.set_cons_zero, List.set_cons_succ]
              refine wpAnyH_one 2 (by kernel_rfl) ?_
              refine wpOp_call 70 #[.pointer (some ⟨T, 0, none⟩), .int .i64 0, .int .i64 0] rfl (by kernel_rfl) (exec_call3 _ _ _ _ _ _ _ _ _ _ rfl _ _ _ (by kernel_rfl) (by kernel_rfl) (by kernel_rfl) (Try.call70 _ _)) ?_
              refine (HTk.out _ HTd.out).mono ?_
              rintro e w7 ⟨E', G', rfl, ht7⟩
              have HT7 := hidd ht7
              clear ht7
              refine ⟨HT7.out.tal, ?_⟩
              try simp only [Act.put, List.getElem_toArray, List.getElem_cons_succ, List.getElem_cons_zero, List.setIfInBounds_toArray, List.set_cons_zero, List.set_cons_succ]
              refine wpAnyH_take (i := 3) (v := .bool false) rfl (by kernel_rfl) (by kernel_rfl) (by kernel_rfl) (fun _ _ _ h => h) (Or.inl ⟨by kernel_rfl, fun W hW => exec_move W _ _ _ rfl _ (by kernel_rfl)⟩) HT7.out.tal ?_
              try simp only [Act.put, List.getElem_toArray, List.getElem_cons_succ, List.getElem_cons_zero, List.setIfInBounds_toArray, List.set_cons_zero, List.set_cons_succ]
              refine wpAnyH_take (i := 4) (v := undef) rfl (by kernel_rfl) (by kernel_rfl) (by kernel_rfl) (fun _ _ _ h => h) (Or.inr ⟨by kernel_rfl, rfl⟩) HT7.out.tal ?_
              try simp only [Act.put, List.getElem_toArray, List.getElem_cons_succ, List.getElem_cons_zero, List.setIfInBounds_toArray, List.set_cons_zero, List.set_cons_succ]
              refine wpAnyH_take (i := 5) (v := undef) rfl (by kernel_rfl) (by kernel_rfl) (by kernel_rfl) (fun _ _ _ h => h) (Or.inr ⟨by kernel_rfl, rfl⟩) HT7.out.tal ?_
              try simp only [Act.put, List.getElem_toArray, List.getElem_cons_succ, List.getElem_cons_zero, List.setIfInBounds_toArray, List.set_cons_zero, List.set_cons_succ]
              refine wpAnyH_take (i := 6) (v := .bool false) rfl (by kernel_rfl) (by kernel_rfl) (by kernel_rfl) (fun _ _ _ h => h) (Or.inl ⟨by kernel_rfl, fun W hW => exec_pick W _ _ _ _ _ rfl false (by kernel_rfl) _ (by kernel_rfl)⟩) HT7.out.tal ?_
              try simp only [Act.put, List.getElem_toArray, List.getElem_cons_succ, List.getElem_cons_zero, List.setIfInBounds_toArray, List.set_cons_zero, List.set_cons_succ]
              refine wpAnyH_take (i := 7) (v := .slice (some ⟨be, 0, none⟩) S.length S.length) rfl (by kernel_rfl) (by kernel_rfl) (by kernel_rfl) (fun _ _ _ h => h) (Or.inl ⟨by kernel_rfl, fun W hW => exec_assign W _ _ _ rfl _ (by kernel_rfl)⟩) HT7.out.tal ?_
              try simp only [Act.put, List.getElem_toArray, List.getElem_cons_succ, List.getElem_cons_zero, List.setIfInBounds_toArray, List.set_cons_zero, List.set_cons_succ]
              refine wpAnyH_take (i := 8) (v := .bool false) rfl (by kernel_rfl) (by kernel_rfl) (by kernel_rfl) (fun _ _ _ h => h) (Or.inl ⟨by kernel_rfl, fun W hW => exec_assign W _ _ _ rfl _ (by kernel_rfl)⟩) HT7.out.tal ?_
              try simp only [Act.put, List.getElem_toArray, List.getElem_cons_succ, List.getElem_cons_zero, List.setIfInBounds_toArray, List.set_cons_zero, List.set_cons_succ]
              refine wpAnyH_done (by kernel_rfl) ?_ _
              go_wp2_with fail
              go_ret2
              exact ⟨_, _, rfl, HT7.out.old, (fun h => by cases h), fun h => (Hno.out h).elim⟩
end Go.Proofs.Ytbkedgpligcicaa

namespace Go.Proofs.Ytbkedgpligcicaa
open Go Go.RowKit
set_option linter.unusedVariables false

/-! The program's way to what ReadDict tells. -/
theorem readD_ok {bs : List UInt8} {S : List St} {E : List Nat} (h : rdI bs = some S) (hE : EndOK S E) : readD bs = some (((valE E 0 : Nat) : Int), S.map (ahdS E)) := by
  obtain ⟨ts, hd⟩ := hE.dict
  refine readD_impl h hd ?_
  show (S.map (ahdS E)).map bareS = S
  rw [show (S.map (ahdS E)).map bareS = S.map bareS from ahdS_like E S]
  exact (rdI_inv h).2.2.2
theorem readD_notMust {bs : List UInt8} {S : List St} (h : rdI bs = some S) (hM : ¬ Must S) : readD bs = none := by
  refine readD_impl_bad h fun d ts hd he => hM ?_
  have hL : Like d.2 S := by
    show d.2.map bareS = S.map bareS
    rw [he, (rdI_inv h).2.2.2]
  exact hL.must (c := d.1) hd
/-- What ReadDict answers. -/
noncomputable def readO (bs : List UInt8) : (Int × List St) × Int :=
  if 1048576 < bs.length then ((0, []), 2) else match readD bs with
  | none => ((0, []), 15)
  | some d => (d, 0)
end Go.Proofs.Ytbkedgpligcicaa

namespace Go.Proofs.Ytbkedgpligcicaa
open Go Go.RowKit
set_option linter.unusedVariables false

/-! The spec's way to what ReadDict tells. -/
theorem fine_of {S : List St} (h : ∀ s ∈ S, FitS S.length s) : Fine S := fun i hi => by
  have hs : arcsAt S i = S[i].2 := by simp [arcsAt, hi]
  have h1 := h S[i] (List.getElem_mem hi)
  rw [hs]
  refine ⟨h1.1, fun a ha => ?_⟩
  obtain ⟨a1, a2, a3, a4⟩ := h1.2 a ha
  exact ⟨a1, by omega, a3, by omega⟩
theorem Like.fine {S S' : List St} (h : Like S S') (hf : Fine S) : Fine S' := fun i hi => by
  have hl := h.len
  have h1 := hf i (by omega)
  have e := congrArg List.length (h.arcs i)
  simp only [List.length_map] at e
  refine ⟨by omega, fun a ha => ?_⟩
  obtain ⟨b, hb, e1, e2⟩ := h.symm.mem ha
  obtain ⟨a1, a2, a3, a4⟩ := h1.2 b hb
  unfold ArcIn
  rw [e1, e2]
  exact ⟨a1, a2, a3, by omega⟩
theorem Like.says {S S' : List St} (h : Like S S') {x : Int} (hx : CntSays S x) : CntSays S' x := fun e g hs hf hg => hx e g (h.symm.sane hs) (h.symm.fine hf) hg
theorem Like.langF {S S' : List St} (h : Like S S') (f i : Nat) : langF S f i = Go.Proofs.Ytbkedgpligcicaa.langF S' f i := by
  rw [← langF_bare S, ← langF_bare S', h]
/-- A dictionary whose bytes these are is told by the states that are read. -/
theorem rdP_like {bs : List UInt8} {S : List St} (h : rdP bs = some S) {d : Int × List St} {ts : List Tx} (hd : IsDict d ts) (hb : bytesD d.2 = bs) : Like d.2 S := by
  have h1 := IsDict.rdP (c := d.1) (S := d.2) hd
  rw [hb, h] at h1
  show d.2.map bareS = S.map bareS
  rw [(rdP_inv h).2.2.2.1]
  exact (Option.some.inj h1).symm
theorem readD_count {bs : List UInt8} {S : List St} (h : rdP bs = some S) (h1 : 1 < S.length) {x : Int} (hx : CntSays S x) (hbad : x = 0 ∨ 4096 < x) : readD bs = none := readD_none fun d ts hd hb => by
  have hL := rdP_like h hd hb
  have hne : ts ≠ [] := by
    rintro rfl
    have e := IsDict.none.1 hd
    have := hL.len
    rw [e] at this
    simp at this
    omega
  obtain ⟨a1, a2, _⟩ := says_dict (hL.symm.says hx) (c := d.1) hd hne
  rcases hbad with h | h
  · exact a1 h
  · omega
theorem rdP_first {bs : List UInt8} {S : List St} (h : rdP bs = some S) {F : List St} (hF : F.length ≤ 300000) (hb : bytesD F = bs) : F.length ≤ 16384 := by
  have e0 : bytesD F = putL F.length ++ (F.flatMap stB ++ four (sumL (dB F))) := by
    show dB F ++ _ = _
    rw [← List.append_assoc]; rfl
  have hg := getL_put F.length (F.flatMap stB ++ four (sumL (dB F))) (by omega)
  rw [← e0, hb] at hg
  unfold rdP at h
  rw [hg, Option.bind_some] at h
  by_cases hc : 1 ≤ F.length ∧ F.length ≤ 16384
  · exact hc.2
  · rw [if_neg hc] at h; cases h
theorem readD_bad {bs : List UInt8} {S : List St} (h : rdP bs = some S) {f : Nat} (hf : 65 ≤ f) (hbad : ¬ GoodT (langF S f 0)) : readD bs = none := readD_none fun d ts hd hb => by
  refine hbad ?_
  rw [← (rdP_like h hd hb).langF f 0, IsDict.big (c := d.1) hd hf]
  exact hd.1
theorem readD_build {bs : List UInt8} {S : List St} (h : rdP bs = some S) {f : Nat} (hf : 65 ≤ f) {L : List Tx} (hL : langF S f 0 = L) (hg : GoodT L) {ord : List (List Tx)} (ho : IsBfs nextT L ord) (hn : ord.length ≤ 300000) : (bytesD (dictOf L ord).2 = bs → readD bs = some (dictOf L ord)) ∧ (bytesD (dictOf L ord).2 ≠ bs → readD bs = none) := by
  refine ⟨fun hb => ?_, fun hb => readD_none fun d ts hd hbd => hb ?_⟩
  · have hl := rdP_first h (F := (dictOf L ord).2) (by show (ord.map _).length ≤ _; rw [List.length_map]; exact hn) hb
    have hl : ord.length ≤ 16384 := by
      have : (ord.map (stOf ord)).length ≤ 16384 := hl
      rwa [List.length_map] at this
    exact readD_some (d := dictOf L ord) (ts := L) ⟨hg, ord, ho, hl, rfl⟩ hb
  · have e1 : ts = L := by rw [← hL, ← (rdP_like h hd hbd).langF f 0, IsDict.big (c := d.1) hd hf]
    subst e1
    obtain ⟨_, ord', ho', _, e2⟩ := hd
    rw [← hbd, e2, ho.uniq ho']
/-- One state that is read tells of no terms. -/
theorem readD_one {bs : List UInt8} {S : List St} (h : rdP bs = some S) (h1 : S.length = 1) {ord : List (List Tx)} (ho : IsBfs nextT [] ord) (hn : ord.length ≤ 300000) : (bytesD (dictOf [] ord).2 = bs → readD bs = some (dictOf [] ord)) ∧ (bytesD (dictOf [] ord).2 ≠ bs → readD bs = none) := by
  have hg : GoodT [] := ⟨List.Pairwise.nil, by simp, fun t ht => by simp at ht⟩
  refine ⟨fun hb => ?_, fun hb => readD_none fun d ts hd hbd => hb ?_⟩
  · have hl := rdP_first h (F := (dictOf [] ord).2) (by show (ord.map _).length ≤ _; rw [List.length_map]; exact hn) hb
    have hl : ord.length ≤ 16384 := by
      have : (ord.map (stOf ord)).length ≤ 16384 := hl
      rwa [List.length_map] at this
    exact readD_some (d := dictOf [] ord) (ts := []) ⟨hg, ord, ho, hl, rfl⟩ hb
  · have hlen := (rdP_like h hd hbd).len
    have e1 : ts = [] := by
      have hm := IsDict.must (c := d.1) hd
      have hd1 : d.2.length = 1 := by omega
      have ha : arcsAt d.2 0 = [] := by
        rcases hm.2.2 with ⟨_, h3⟩ | ⟨⟨e, g, hs⟩, _⟩
        · exact h3
        · refine List.eq_nil_iff_forall_not_mem.2 fun a ha => ?_
          have q1 := hs.long 0 (by omega) a ha
          have q2 := ((IsDict.small (c := d.1) hd 0 (by omega)).2 a ha).2.2.2
          rw [show a.2.1.toNat = 0 by omega] at q1
          omega
      exact (one_dict (c := d.1) hd1 hm.2.1 (by rw [ha]; rfl) hd).1
    subst e1
    obtain ⟨_, ord', ho', _, e2⟩ := hd
    rw [← hbd, e2, ho.uniq ho']
end Go.Proofs.Ytbkedgpligcicaa

namespace Go.Proofs.Ytbkedgpligcicaa
open Go Go.RowKit
set_option linter.unusedVariables false
set_option maxRecDepth 100000

/-- States in a row of one's own, their arcs in blocks of their own: all of it between lo and hi. -/
structure StsAt (W : World) (lo hi : Nat) (v : Value) (S : List St) (xs : List Value) : Prop where
  le : hi ≤ W.heap.size
  row : W.ownsRow lo 82 2 v S.length xs
  own : ∀ b, v.ownBlock = some b → b < hi
  sts : ∀ j, j < S.length → xs[j * 2]? = some (.bool (S.getD j st0).1) ∧ ∃ aj cj, xs[j * 2 + 1]? = some (.slice aj (S.getD j st0).2.length cj) ∧ HoldA W aj (S.getD j st0).2 ∧ ∀ b off, aj = some ⟨b, off, none⟩ → lo ≤ b ∧ b < hi ∧ ∃ cur, W.heap[b]? = some (.cells cur 85)
theorem StsAt.nil (W : World) (lo : Nat) : StsAt W lo W.heap.size (.slice none 0 0) [] [] := ⟨Nat.le_refl _, World.ownsRow_nil _ _ _ _, (fun b hb => by cases hb), fun j hj => by simp at hj⟩
theorem StsAt.keep {W W' : World} {lo hi : Nat} {v : Value} {S : List St} {xs : List Value} (h : StsAt W lo hi v S xs) (hz : W.heap.size ≤ W'.heap.size) (hk : ∀ b, lo ≤ b → b < hi → W'.heap[b]? = W.heap[b]?) : StsAt W' lo hi v S xs := by
  refine ⟨Nat.le_trans h.le hz, own_congr h.row fun b hb => hk b (own_blk h.row hb).1 (h.own b hb), h.own, fun j hj => ?_⟩
  obtain ⟨q1, aj, cj, q2, q3, q4⟩ := h.sts j hj
  refine ⟨q1, aj, cj, q2, q3.keep hz fun b off e _ => hk b (q4 b off e).1 (q4 b off e).2.1, fun b off e => ?_⟩
  obtain ⟨r1, r2, cur, r3⟩ := q4 b off e
  exact ⟨r1, r2, cur, (hk b r1 r2).trans r3⟩
theorem StsAt.push {W V w6 : World} {lo hi lo2 g6 cp6 : Nat} {v va : Value} {S : List St} {xs : List Value} {f : Bool} {l : List Ar} (h : StsAt W lo hi v S xs) (hlo : lo ≤ lo2) (harow : W.ownsRow lo2 85 3 va l.length (aC l)) (hV : Below W.heap.size W V)
    (hown : w6.ownsRow lo 82 2 (.slice (some ⟨g6, 0, none⟩) (S.length + 1) cp6) (S.length + 1) (xs ++ [.bool f, va])) (hg : V.grownBy w6 v.ownBlock) :
    StsAt w6 lo w6.heap.size (.slice (some ⟨g6, 0, none⟩) (S.length + 1) cp6) (S ++ [(f, l)]) (xs ++ [.bool f, va]) := by
  have hsz : W.heap.size ≤ w6.heap.size := Nat.le_trans hV.size hg.size
  have hkeep : ∀ (b : Nat) (cs : Array Value), W.heap[b]? = some (Obj.cells cs 85) → w6.heap[b]? = W.heap[b]? := fun b cs hb => by
    have hbl := (Array.getElem?_eq_some_iff.1 hb).1
    have hVs := hV.size
    rw [hg.block b (by omega) (fun e => by
      obtain ⟨h5, cur, hc⟩ := own_blk h.row e.symm
      exact blk_ne hb hc (by decide) rfl), hV.block b hbl]
  have hxl : xs.length = S.length * 2 := h.row.1
  obtain ⟨av, cv, hvv, hHA, hHb⟩ := holdA_of harow
  have hgl : ∀ b, (Value.slice (some ⟨g6, 0, none⟩) (S.length + 1) cp6).ownBlock = some b → b < w6.heap.size := fun b hb => by
    obtain ⟨_, cur, hc⟩ := own_blk hown hb
    exact (Array.getElem?_eq_some_iff.1 hc).1
  refine ⟨Nat.le_refl _, by simpa using hown, hgl, fun j hj => ?_⟩
  have hj' : j < S.length + 1 := by simpa using hj
  by_cases e : j < S.length
  · obtain ⟨q1, a, c, q2, q3, q4⟩ := h.sts j e
    have eS : (S ++ [(f, l)]).getD j st0 = S.getD j st0 := by simp [List.getD_eq_getElem?_getD, List.getElem?_append_left e]
    rw [eS, List.getElem?_append_left (by omega), List.getElem?_append_left (by omega)]
    refine ⟨q1, a, c, q2, q3.keep hsz fun b off e _ => ?_, fun b off e => ?_⟩
    · obtain ⟨_, _, cur, hc⟩ := q4 b off e
      exact hkeep b cur hc
    · obtain ⟨q5, q6, cur, hc⟩ := q4 b off e
      exact ⟨q5, by have := h.le; omega, cur, (hkeep b cur hc).trans hc⟩
  · obtain rfl : j = S.length := by omega
    have eS : (S ++ [(f, l)]).getD S.length st0 = (f, l) := by simp
    rw [eS, List.getElem?_append_right (by omega), List.getElem?_append_right (by omega), show S.length * 2 - xs.length = 0 from by omega, show S.length * 2 + 1 - xs.length = 1 from by omega]
    refine ⟨rfl, av, cv, by rw [hvv]; rfl, hHA.keep hsz fun b off e _ => ?_, fun b off e => ?_⟩
    · have hb : va.ownBlock = some b := by rw [hvv, e]; rfl
      obtain ⟨_, cur, hc⟩ := own_blk harow hb
      exact hkeep b cur hc
    · have hb : va.ownBlock = some b := by rw [hvv, e]; rfl
      obtain ⟨q5, cur, hc⟩ := own_blk harow hb
      exact ⟨by omega, by have := (Array.getElem?_eq_some_iff.1 hc).1; omega, cur, (hkeep b cur hc).trans hc⟩
/-- What lies so is held. -/
theorem StsAt.hold {W : World} {lo hi : Nat} {v : Value} {S : List St} {xs : List Value} (h : StsAt W lo hi v S xs) : ∃ a c, v = .slice a S.length c ∧ HoldS W a S := by
  rcases h.row.2 with ⟨h0, h1⟩ | ⟨g, cap, cur, e, hg, hcur, _⟩
  · exact ⟨none, 0, by rw [h0, h1], Or.inl (List.length_eq_zero_iff.1 h1)⟩
  · have hrow := h.row
    rw [e] at hrow
    refine ⟨some ⟨g, 0, none⟩, cap, e, Or.inr ⟨g, 0, rfl, (Array.getElem?_eq_some_iff.1 hcur).1, fun j hj => ?_⟩⟩
    obtain ⟨q1, aj, cj, q2, q3, _⟩ := h.sts j hj
    rw [Nat.zero_add]
    exact ⟨by rw [hrow.cellAt (j * 2) (by omega)]; exact q1, aj, cj, by rw [hrow.cellAt (j * 2 + 1) (by omega)]; exact q2, q3⟩
end Go.Proofs.Ytbkedgpligcicaa

namespace Go.Proofs.Ytbkedgpligcicaa
open Go Go.RowKit
set_option linter.unusedVariables false
set_option maxHeartbeats 1000000 in
/-- spec's l03Get at a place: what stands there. -/
theorem specGet_any (b off cap k : Nat) (bs : List UInt8) (w : World) (hl : bs.length ≤ 1048576) (hk : k ≤ bs.length) (hc : BytesAt w b off bs) :
    Calls Try.prog 91 #[.slice (some ⟨b, off, none⟩) bs.length cap, .int .i64 (k : Int)] w fun e w' => (∃ m, w' = w.drewN m) ∧
      ((getL (bs.drop k) = none ∧ ∃ x y : Int, e = .returned (.tuple #[.int .i64 x, .int .i64 y, .bool false])) ∨ ∃ v s, getL (bs.drop k) = some (v, s) ∧ e = .returned (.tuple #[.int .i64 (v : Int), .int .i64 ((k : Int) + (s : Int)), .bool true])) := by
  have Hc := hidd hc
  clear hc
  go_enter Try.func91, Try.ntmps91
  go_wp2
  go_loop [7, 8, 9] (fun vv uu nn => ∃ j y U : Nat, j ≤ 8 ∧ k + j ≤ bs.length ∧ nn = .int .i64 j ∧ vv = .int .i64 (y : Int) ∧ uu = .int .i64 (U : Int) ∧ U = 128 ^ j ∧ y < 128 ^ j ∧ getL (bs.drop k) = getGo (bs.drop (k + j)) j y) (fun _ _ nn => 9 - (intOf nn).toNat)
  case atStart => exact ⟨0, 0, 1, by omega, by omega, rfl, rfl, rfl, rfl, by omega, rfl⟩
  case round =>
    obtain ⟨j, y, U, hj, hkj, rfl, rfl, rfl, hU, hy, hget⟩ := hrel
    have hU8 : U ≤ 72057594037927936 := by rw [hU]; have := Nat.pow_le_pow_right (n := 128) (by omega) hj; omega
    have hyU : y < U := by omega
    have HG := hidd hget
    have HU := hidd hU
    clear hget hU hy
    have hj9 : (j : Int) < 9 := by omega
    by_cases hlt : k + j < bs.length
    · have hlz : (k : Int) + (j : Int) < (bs.length : Int) := by omega
      have g1 := Hc.out (k + j) hlt
      have hc256 : (bs.getD (k + j) 0).toNat < 256 := UInt8.toNat_lt _
      have Hd : Hid (bs.drop (k + j) = bs.getD (k + j) 0 :: bs.drop (k + j + 1)) := by show _ = _; rw [List.drop_eq_getElem_cons hlt]; simp [hlt]
      generalize hcc : bs.getD (k + j) 0 = cb at *
      clear hcc
      obtain ⟨T, hT⟩ : ∃ T : Nat, T = cb.toNat % 128 * U := ⟨_, rfl⟩
      have hTle : T ≤ 127 * U := by rw [hT]; exact Nat.mul_le_mul_right _ (by omega)
      have hTz : (cb.toNat : Int) % 128 * (U : Int) = (T : Int) := by rw [hT]; simp
      have HT := hidd hT
      clear hT
      by_cases h8 : j = 8 ∧ 63 < cb.toNat
      · obtain ⟨h8, h63⟩ := h8
        have hb8 : ((j : Int) == 8) = true := by simp; omega
        have h63z : (63 : Int) < (cb.toNat : Int) := by omega
        have HN : Hid (getL (bs.drop k) = none) := by show _ = _; rw [HG.out, Hd.out, getGo, if_pos (Or.inr ⟨h8, h63⟩)]
        clear h8
        go_wp2
        go_ret3
        exact ⟨⟨0, rfl⟩, Or.inl ⟨HN.out, _, _, rfl⟩⟩
      · have HS : Hid (cb.toNat < 128 → (j = 0 ∨ 0 < cb.toNat) → getL (bs.drop k) = some (y + T, j + 1)) := by
          intro h1 h2
          rw [HG.out, Hd.out, getGo, if_neg (by omega), if_pos h1, if_pos h2, HT.out, HU.out]
        have HN : Hid (cb.toNat < 128 → ¬ (j = 0 ∨ 0 < cb.toNat) → getL (bs.drop k) = none) := by
          intro h1 h2
          rw [HG.out, Hd.out, getGo, if_neg (by omega), if_pos h1, if_neg h2]
        have HX : Hid (¬ cb.toNat < 128 → getL (bs.drop k) = getGo (bs.drop (k + (j + 1))) (j + 1) (y + T)) := by
          intro h1
          rw [HG.out, Hd.out, getGo, if_neg (by omega), if_neg h1, HT.out, HU.out, Nat.add_assoc]
        have Hn8 : Hid (¬ (j = 8 ∧ 63 < cb.toNat)) := h8
        clear h8 Hd HG
        by_cases hj8 : j = 8
        · have h63 : cb.toNat ≤ 63 := by have := Hn8.out; omega
          have hb8 : ((j : Int) == 8) = true := by simp; omega
          have hcz : ¬ (63 : Int) < (cb.toNat : Int) := by omega
          have hc128 : (cb.toNat : Int) < 128 := by omega
          have hb0 : ((j : Int) == 0) = false := by simp; omega
          have hTle' : T ≤ 63 * U := by rw [HT.out]; exact Nat.mul_le_mul_right _ (by omega)
          by_cases hc0 : 0 < cb.toNat
          · have hc0z : (0 : Int) < (cb.toNat : Int) := by omega
            have HE := hidd (HS.out (by omega) (Or.inr hc0))
            clear hj8
            go_wp2
            go_ret3
            refine ⟨⟨0, rfl⟩, Or.inr ⟨y + T, _, HE.out, ?_⟩⟩
            congr 3
            try (simp; try omega)
          · have hc0z : ¬ (0 : Int) < (cb.toNat : Int) := by omega
            have HE := hidd (HN.out (by omega) (by omega))
            clear hj8
            go_wp2
            go_ret3
            exact ⟨⟨0, rfl⟩, Or.inl ⟨HE.out, _, _, rfl⟩⟩
        · have hb8 : ((j : Int) == 8) = false := by simp; omega
          by_cases hc128 : cb.toNat < 128
          · have hc128z : (cb.toNat : Int) < 128 := by omega
            by_cases hj0 : j = 0
            · have HE := hidd (HS.out hc128 (Or.inl hj0))
              have hb0 : ((j : Int) == 0) = true := by simp; omega
              clear hj0
              go_wp2
              go_ret3
              refine ⟨⟨0, rfl⟩, Or.inr ⟨y + T, _, HE.out, ?_⟩⟩
              congr 3
              try (simp; try omega)
            · have hb0 : ((j : Int) == 0) = false := by simp; omega
              by_cases hc0 : 0 < cb.toNat
              · have hc0z : (0 : Int) < (cb.toNat : Int) := by omega
                have HE := hidd (HS.out (by omega) (Or.inr hc0))
                go_wp2
                go_ret3
                refine ⟨⟨0, rfl⟩, Or.inr ⟨y + T, _, HE.out, ?_⟩⟩
                congr 3
                try (simp; try omega)
              · have hc0z : ¬ (0 : Int) < (cb.toNat : Int) := by omega
                have HE := hidd (HN.out (by omega) (by omega))
                go_wp2
                go_ret3
                exact ⟨⟨0, rfl⟩, Or.inl ⟨HE.out, _, _, rfl⟩⟩
          · have hc128z : ¬ (cb.toNat : Int) < 128 := by omega
            have hjlt : (j : Int) < 8 := by omega
            have hU7 : U ≤ 562949953421312 := by rw [HU.out]; have := Nat.pow_le_pow_right (n := 128) (i := j) (j := 7) (by omega) (by omega); omega
            have HE := hidd (HX.out hc128)
            go_wp2
            go_round
            case rel =>
              refine ⟨j + 1, y + T, U * 128, by omega, by omega, by go_num, by go_num, by go_num, by rw [HU.out, Nat.pow_succ], ?_, HE.out⟩
              rw [Nat.pow_succ, ← HU.out]; omega
            case measure => simp [intOf]; omega
    · have hlz : ¬ (k : Int) + (j : Int) < (bs.length : Int) := by omega
      have HN : Hid (getL (bs.drop k) = none) := by show _ = _; rw [HG.out, List.drop_of_length_le (by omega)]; rfl
      go_wp2
      go_ret3
      exact ⟨⟨0, rfl⟩, Or.inl ⟨HN.out, _, _, rfl⟩⟩
end Go.Proofs.Ytbkedgpligcicaa

namespace Go.Proofs.Ytbkedgpligcicaa
open Go Go.RowKit
set_option linter.unusedVariables false
set_option maxRecDepth 100000

/-! spec's reader of states, between two states and between two arcs. -/
structure PoAt (w W : World) (hi : Nat) (v : Value) (S : List St) (xs : List Value) : Prop where
  old : Below w.heap.size w W
  res : W.heap[w.heap.size]? = some (.cells #[.int .i64 0, .slice none 0 0] 27)
  dbx : W.heap[w.heap.size + 1]? = some (.cells #[.int .i64 0, v] 27)
  sts : StsAt W (w.heap.size + 2) hi v S xs
theorem PoAt.keep {w W W' : World} {hi : Nat} {v : Value} {S : List St} {xs : List Value} (h : PoAt w W hi v S xs) (hs : Below w.heap.size W W') (h0 : W'.heap[w.heap.size]? = W.heap[w.heap.size]?) (h1 : W'.heap[w.heap.size + 1]? = W.heap[w.heap.size + 1]?) (hk : ∀ b, w.heap.size + 2 ≤ b → b < hi → W'.heap[b]? = W.heap[b]?) : PoAt w W' hi v S xs :=
  ⟨h.old.trans hs, h0.trans h.res, h1.trans h.dbx, h.sts.keep hs.size hk⟩
theorem PoAt.below {w W W' : World} {hi : Nat} {v : Value} {S : List St} {xs : List Value} (h : PoAt w W hi v S xs) (hb : Below W.heap.size W W') : PoAt w W' hi v S xs :=
  h.keep (hb.mono h.old.size) (hb.block _ (Array.getElem?_eq_some_iff.1 h.res).1) (hb.block _ (Array.getElem?_eq_some_iff.1 h.dbx).1) (fun b _ h2 => hb.block b (Nat.lt_of_lt_of_le h2 h.sts.le))
structure PiAt (w W : World) (hi : Nat) (v : Value) (S : List St) (xs : List Value) (B : Nat) (f : Bool) (va : Value) (l : List Ar) : Prop where
  out : PoAt w W hi v S xs
  hiB : hi ≤ B
  lt : w.heap.size + 2 ≤ B
  box : W.heap[B]? = some (.cells #[.bool f, va] 82)
  row : W.ownsRow (B + 1) 85 3 va l.length (aC l)
theorem PiAt.below {w W W' : World} {hi : Nat} {v : Value} {S : List St} {xs : List Value} {B : Nat} {f : Bool} {va : Value} {l : List Ar} (h : PiAt w W hi v S xs B f va l) (hb : Below W.heap.size W W') : PiAt w W' hi v S xs B f va l :=
  ⟨h.out.below hb, h.hiB, h.lt, blko h.box hb, own_congr h.row fun b hb' => hb.block b (h.row.lt b hb').2⟩
theorem PiAt.push {w W V w6 : World} {hi : Nat} {v : Value} {S : List St} {xs : List Value} {B : Nat} {f : Bool} {va : Value} {l : List Ar} {p : Ar} {g6 cp6 : Nat} (h : PiAt w W hi v S xs B f va l) (hV : Below W.heap.size W V)
    (hown : w6.ownsRow (B + 1) 85 3 (.slice (some ⟨g6, 0, none⟩) (l.length + 1) cp6) (l.length + 1) (aC l ++ [.int .i64 p.1, .int .i64 p.2.1, .int .i64 p.2.2])) (hg : V.grownBy w6 va.ownBlock) (hat : va.ownBlock = some g6 ∨ g6 = V.heap.size) :
    w6.heap[B]? = some (.cells #[.bool f, va] 82) ∧ PiAt w (w6.setCell ⟨B, 1, none⟩ (.slice (some ⟨g6, 0, none⟩) (l.length + 1) cp6)) hi v S xs B f (.slice (some ⟨g6, 0, none⟩) (l.length + 1) cp6) (l ++ [p]) := by
  have hBl := (Array.getElem?_eq_some_iff.1 h.box).1
  have hVs := hV.size
  have hva : ∀ b, va.ownBlock = some b → B + 1 ≤ b := fun b hb => (own_blk h.row hb).1
  have hk : ∀ b, b ≤ B → w6.heap[b]? = W.heap[b]? := fun b hb => by
    rw [hg.block b (by omega) (fun e => by have := hva b e.symm; omega), hV.block b (by omega)]
  have hbox : w6.heap[B]? = some (.cells #[.bool f, va] 82) := (hk B (Nat.le_refl _)).trans h.box
  have hg6 : g6 ≠ B := by
    rcases hat with e | e
    · have := hva g6 e; omega
    · omega
  have hlt := h.lt
  have hb6 : Below w.heap.size W w6 := ⟨by rw [hg.os, hV.os], by rw [hg.tape, hV.tape], by rw [hg.output, hV.output], Nat.le_trans hV.size hg.size, fun b hb => hk b (by omega)⟩
  refine ⟨hbox, ?_, h.hiB, h.lt, blk_setk hbox 1 _, ?_⟩
  · refine h.out.keep (hb6.setCell (p := ⟨B, 1, none⟩) (by dsimp only; omega) _) ?_ ?_ fun b h1 h2 => ?_
    · rw [heap_set_other w6 B 1 _ _ (by omega)]; exact hk _ (by omega)
    · rw [heap_set_other w6 B 1 _ _ (by omega)]; exact hk _ (by omega)
    · have := h.hiB
      rw [heap_set_other w6 B 1 _ _ (by omega)]; exact hk _ (by omega)
  · rw [List.length_append, aC_snoc]
    exact own_congr hown fun b hb => heap_set_other w6 B 1 _ b (by cases hb; exact hg6)
theorem PiAt.next {w W V w6 : World} {hi : Nat} {v : Value} {S : List St} {xs : List Value} {B : Nat} {f : Bool} {va : Value} {l : List Ar} {g6 cp6 : Nat} (h : PiAt w W hi v S xs B f va l) (hV : Below W.heap.size W V)
    (hown : w6.ownsRow (w.heap.size + 2) 82 2 (.slice (some ⟨g6, 0, none⟩) (S.length + 1) cp6) (S.length + 1) (xs ++ [.bool f, va])) (hg : V.grownBy w6 v.ownBlock) (hat : v.ownBlock = some g6 ∨ g6 = V.heap.size) :
    w6.heap[w.heap.size + 1]? = some (.cells #[.int .i64 0, v] 27) ∧ PoAt w (w6.setCell ⟨w.heap.size + 1, 1, none⟩ (.slice (some ⟨g6, 0, none⟩) (S.length + 1) cp6)) w6.heap.size (.slice (some ⟨g6, 0, none⟩) (S.length + 1) cp6) (S ++ [(f, l)]) (xs ++ [.bool f, va]) := by
  have hdl := (Array.getElem?_eq_some_iff.1 h.out.dbx).1
  have hVs := hV.size
  have hlt := h.lt
  have hv : ∀ b, v.ownBlock = some b → w.heap.size + 2 ≤ b := fun b hb => (own_blk h.out.sts.row hb).1
  have hk : ∀ b, b < w.heap.size + 2 → w6.heap[b]? = W.heap[b]? := fun b hb => by
    rw [hg.block b (by omega) (fun e => by have := hv b e.symm; omega), hV.block b (by omega)]
  have hbox := (hk (w.heap.size + 1) (by omega)).trans h.out.dbx
  have hb6 : Below w.heap.size W w6 := ⟨by rw [hg.os, hV.os], by rw [hg.tape, hV.tape], by rw [hg.output, hV.output], Nat.le_trans hV.size hg.size, fun b hb => hk b (by omega)⟩
  have hst := h.out.sts.push (f := f) (l := l) (by omega) h.row hV hown hg
  refine ⟨hbox, h.out.old.trans (hb6.setCell (p := ⟨w.heap.size + 1, 1, none⟩) (by dsimp only; omega) _), ?_, blk_setk hbox 1 _, hst.keep (by simp) fun b h1 h2 => heap_set_other w6 (w.heap.size + 1) 1 _ b (by omega)⟩
  rw [heap_set_other w6 (w.heap.size + 1) 1 _ _ (by omega)]
  exact (hk _ (by omega)).trans h.out.res
theorem vOn {wb V w6 : World} {row : Option Nat} (h : V.grownBy w6 row) (hb : Below wb.heap.size wb V) : Hid (Below wb.heap.size wb V) := hidd hb
/-- What was read so far, and what is left. -/
def rdO (S : List St) (o : Option (List St × List UInt8)) : Option (List St × List UInt8) := o.map fun q => (S ++ q.1, q.2)
def rdA (l : List Ar) (o : Option (List Ar × List UInt8)) : Option (List Ar × List UInt8) := o.map fun q => (l ++ q.1, q.2)
theorem rdO_nil (o : Option (List St × List UInt8)) : rdO [] o = o := by cases o <;> simp [rdO]
theorem rdA_nil (o : Option (List Ar × List UInt8)) : rdA [] o = o := by cases o <;> simp [rdA]
theorem rdSts_step {n k : Nat} {S : List St} {bs : List UInt8} {s : St} {r : List UInt8} (h : rdSt n bs = some (s, r)) : rdO S (rdSts n (k + 1) bs) = rdO (S ++ [s]) (rdSts n k r) := by
  rw [rdSts, h, Option.bind_some]
  cases rdSts n k r <;> simp [rdO]
theorem rdSts_stop {n k : Nat} {S : List St} {bs : List UInt8} (h : rdSt n bs = none) : rdO S (rdSts n (k + 1) bs) = none := by
  rw [rdSts, h]; rfl
theorem rdArcs_step {n k : Nat} {l : List Ar} {b : UInt8} {bs : List UInt8} {v s : Nat} (h : getL bs = some (v, s)) (hv : v < n) : rdA l (rdArcs n (k + 1) (b :: bs)) = rdA (l ++ [((b.toNat : Int), (v : Int), 0)]) (rdArcs n k (bs.drop s)) := by
  rw [rdArcs, h, Option.bind_some, if_pos hv]
  cases rdArcs n k (bs.drop s) <;> simp [rdA]
theorem rdArcs_bad {n k : Nat} {l : List Ar} {b : UInt8} {bs : List UInt8} (h : ∀ v s, getL bs = some (v, s) → ¬ v < n) : rdA l (rdArcs n (k + 1) (b :: bs)) = none := by
  rw [rdArcs]
  cases hg : getL bs with
  | none => rfl
  | some p => rw [Option.bind_some, if_neg (h p.1 p.2 hg)]; rfl
theorem rdSt_bad {n : Nat} {bs : List UInt8} (h : ∀ v s, getL bs = some (v, s) → ¬ v ≤ 513) : rdSt n bs = none := by
  unfold rdSt
  cases hg : getL bs with
  | none => rfl
  | some p => rw [Option.bind_some, if_neg (h p.1 p.2 hg)]
theorem rdSt_arcs {n : Nat} {bs : List UInt8} {v s : Nat} (h : getL bs = some (v, s)) (hv : v ≤ 513) : rdSt n bs = (rdArcs n (v / 2) (bs.drop s)).map fun q => ((v % 2 == 1, q.1), q.2) := by
  unfold rdSt
  rw [h, Option.bind_some, if_pos hv]
theorem getL_fit {bs : List UInt8} {v s : Nat} (h : getL bs = some (v, s)) : s ≤ bs.length ∧ v < 4611686018427387904 := by
  obtain ⟨h1, h2, h3⟩ := getL_inv h
  have := congrArg List.length h1
  rw [List.length_take, ← h3] at this
  exact ⟨by omega, h2⟩
end Go.Proofs.Ytbkedgpligcicaa

namespace Go.Proofs.Ytbkedgpligcicaa
open Go Go.RowKit
set_option linter.unusedVariables false
set_option linter.unusedSimpArgs false
set_option maxRecDepth 100000

/-! The operations of one region of l04Maker.make, by hand. -/
theorem mkx_move (W : World) (ρ : Operand → Value) (o : Oper) (x : Operand) (ho : o.op = .move x) (v : Value) (hx : ρ x = v) : (execOp ρ o).run Try.prog W = .ok (.value v) W := by
  unfold execOp
  simp only [ho, Sem.run_pure, hx]
theorem mkx_nil (W : World) (ρ : Operand → Value) (o : Oper) (x : Operand) (ho : o.op = .nilCheck x) (b off : Nat) (hx : ρ x = .pointer (some ⟨b, off, none⟩)) : (execOp ρ o).run Try.prog W = .ok (.value (.pointer (some ⟨b, off, none⟩))) W := by
  unfold execOp
  simp only [ho, hx, Sem.run_bind, Sem.run_pure, Result.andThen_ok]
theorem mkx_field1 (W : World) (ρ : Operand → Value) (o : Oper) (x : Operand) (ho : o.op = .fieldAddr 112 x 1) (b : Nat) (hx : ρ x = .pointer (some ⟨b, 0, none⟩)) : (execOp ρ o).run Try.prog W = .ok (.value (.pointer (some ⟨b, 1, none⟩))) W := by
  unfold execOp
  simp only [ho, hx, Sem.run_bind, Sem.run_pure, Result.andThen_ok]
  go_simp
theorem mkx_field3 (W : World) (ρ : Operand → Value) (o : Oper) (x : Operand) (ho : o.op = .fieldAddr 112 x 3) (b : Nat) (hx : ρ x = .pointer (some ⟨b, 0, none⟩)) : (execOp ρ o).run Try.prog W = .ok (.value (.pointer (some ⟨b, 3, none⟩))) W := by
  unfold execOp
  simp only [ho, hx, Sem.run_bind, Sem.run_pure, Result.andThen_ok]
  go_simp
theorem mkx_loadBk (W : World) (ρ : Operand → Value) (o : Oper) (x : Operand) (ho : o.op = .load 110 x) (b off : Nat) (a : Option Addr) (n c : Nat) (hx : ρ x = .pointer (some ⟨b, off, none⟩)) (h0 : W.cell? ⟨b, off, none⟩ = some (.slice a n c)) : (execOp ρ o).run Try.prog W = .ok (.value (.slice a n c)) W := by
  unfold execOp
  simp only [ho, Instr.loadAt, Instr.sureAddr, hx, Sem.run_bind, Sem.run_pure, Result.andThen_ok]
  go_simp
theorem mkx_loadSt (W : World) (ρ : Operand → Value) (o : Oper) (x : Operand) (ho : o.op = .load 25 x) (b off : Nat) (a : Option Addr) (n c : Nat) (hx : ρ x = .pointer (some ⟨b, off, none⟩)) (h0 : W.cell? ⟨b, off, none⟩ = some (.slice a n c)) : (execOp ρ o).run Try.prog W = .ok (.value (.slice a n c)) W := by
  unfold execOp
  simp only [ho, Instr.loadAt, Instr.sureAddr, hx, Sem.run_bind, Sem.run_pure, Result.andThen_ok]
  go_simp
theorem mkx_loadIn (W : World) (ρ : Operand → Value) (o : Oper) (x : Operand) (ho : o.op = .load 66 x) (b off : Nat) (a : Option Addr) (n c : Nat) (hx : ρ x = .pointer (some ⟨b, off, none⟩)) (h0 : W.cell? ⟨b, off, none⟩ = some (.slice a n c)) : (execOp ρ o).run Try.prog W = .ok (.value (.slice a n c)) W := by
  unfold execOp
  simp only [ho, Instr.loadAt, Instr.sureAddr, hx, Sem.run_bind, Sem.run_pure, Result.andThen_ok]
  go_simp
theorem mkx_idxB (W : World) (ρ : Operand → Value) (o : Oper) (x y : Operand) (ho : o.op = .indexAddr 110 x y) (b H : Nat) (hH : (H : Int) < 1024) (hx : ρ x = .slice (some ⟨b, 0, none⟩) 1024 1024) (hy : ρ y = .int .i64 (H : Int)) : (execOp ρ o).run Try.prog W = .ok (.value (.pointer (some ⟨b, H, none⟩))) W := by
  unfold execOp
  simp only [ho, hx, hy, Sem.run_bind, Sem.run_pure, Result.andThen_ok]
  go_simp
theorem mkx_lenS (W : World) (ρ : Operand → Value) (o : Oper) (x : Operand) (ho : o.op = .call { callee := .builtin .len, args := #[x], argTypes := #[25] }) (a : Option Addr) (n c : Nat) (hx : ρ x = .slice a n c) : (execOp ρ o).run Try.prog W = .ok (.value (.int .i64 (n : Int))) W := by
  unfold execOp
  simp only [ho, Sem.run_bind, Sem.run_pure, Result.andThen_ok, resolve, invoke, builtin, List.map_toArray, List.map_cons, List.map_nil, hx]
  go_simp
theorem mkx_sub1 (W : World) (ρ : Operand → Value) (o : Oper) (x : Operand) (ho : o.op = .binOp .sub 3 x (.const (.int .i64 1)) 3) (n : Nat) (hn : n ≤ 300000) (hx : ρ x = .int .i64 ((n + 1 : Nat) : Int)) (hc : ρ (.const (.int .i64 1)) = .int .i64 1) : (execOp ρ o).run Try.prog W = .ok (.value (.int .i64 (n : Int))) W := by
  have hw : IntKind.i64.wrap (n : Int) = (n : Int) := IntWalk.i64_in _ ⟨by omega, by omega⟩
  have he : ((n + 1 : Nat) : Int) - 1 = (n : Int) := by omega
  unfold execOp
  simp only [ho, hx, hc, Sem.run_bind, Sem.run_pure, Result.andThen_ok]
  go_simp
theorem mkx_buildI (W : World) (ρ : Operand → Value) (o : Oper) (x : Operand) (ho : o.op = .buildSlice 66 1 #[(0, x)]) (n : Int) (hx : ρ x = .int .i64 n) :
    (execOp ρ o).run Try.prog W = .ok (.value (.slice (some ⟨W.heap.size, 0, none⟩) 1 1)) (W.alloc (.cells #[.int .i64 n] 3)) := by
  unfold execOp
  simp only [ho, hx, Sem.run_bind, Sem.run_pure, Result.andThen_ok]
  go_simp
theorem mkx_storeIn (W : World) (ρ : Operand → Value) (o : Oper) (x y : Operand) (ho : o.op = .store 66 x y) (b off : Nat) (a : Option Addr) (n c : Nat) (u : Value) (hx : ρ x = .pointer (some ⟨b, off, none⟩)) (hy : ρ y = .slice a n c) (h0 : W.cell? ⟨b, off, none⟩ = some u) (h1 : W.frozen? ⟨b, off, none⟩ = false) : (execOp ρ o).run Try.prog W = .ok .skip (W.setCell ⟨b, off, none⟩ (.slice a n c)) := by
  unfold execOp
  simp only [ho, hx, hy, Sem.run_bind, Sem.run_pure, Result.andThen_ok]
  go_simp
section
variable {ops : Array Oper} {Q : Exit → Act → World → Prop} {K : Act → World → Prop} {a : Act} {w : World}
theorem mkOp_val {i : Nat} {o : Oper} (v : Value) (w' : World) (hi : ops[i]? = some o) (hw : Region.wanted o (yielded ops a.tmps) = true) (ho : (execOp a.eval o).run Try.prog w = .ok (.value v) w')
    (h : K (a.put o.dst v) w') : wpOp Try.prog ops Q i K a w := by
  unfold wpOp
  simp only [hi, hw, if_true, Oper.wp, ho, Oper.upon]
  exact .inl h
theorem mkOp_skip {i : Nat} {o : Oper} (w' : World) (hi : ops[i]? = some o) (hw : Region.wanted o (yielded ops a.tmps) = true) (ho : (execOp a.eval o).run Try.prog w = .ok .skip w')
    (h : K (a.put o.dst undef) w') : wpOp Try.prog ops Q i K a w := by
  unfold wpOp
  simp only [hi, hw, if_true, Oper.wp, ho, Oper.upon]
  exact .inl h
theorem mkOp_wp {i : Nat} {o : Oper} (hi : ops[i]? = some o) (hw : Region.wanted o (yielded ops a.tmps) = true) (h : o.wp Try.prog a w K Q) : wpOp Try.prog ops Q i K a w := by
  unfold wpOp
  simp only [hi, hw, if_true]
  exact .inl h
theorem mkAny_one {md : Region.Mode} {S : World → Prop} (i : Nat) {fuel : Nat} {listed : Array Bool} (hr : Region.ready md ops listed = [i])
    (h : wpOp Try.prog ops Q i (fun a' w' => S w' ∧ wpAnyH Try.prog md ops Q S fuel (listed.setIfInBounds i true) a' w') a w) : wpAnyH Try.prog md ops Q S (fuel + 1) listed a w :=
  wpAnyH_all hr (by simp) (fun j hj => by
    have e : j = i := by simpa using hj
    subst e
    exact h)
theorem mkAny_two {md : Region.Mode} {S : World → Prop} (i j : Nat) {fuel : Nat} {listed : Array Bool} (hr : Region.ready md ops listed = [i, j])
    (h1 : wpOp Try.prog ops Q i (fun a' w' => S w' ∧ wpAnyH Try.prog md ops Q S fuel (listed.setIfInBounds i true) a' w') a w)
    (h2 : wpOp Try.prog ops Q j (fun a' w' => S w' ∧ wpAnyH Try.prog md ops Q S fuel (listed.setIfInBounds j true) a' w') a w) : wpAnyH Try.prog md ops Q S (fuel + 1) listed a w :=
  wpAnyH_all hr (by simp) (fun k hk => by
    simp only [List.mem_cons, List.not_mem_nil, or_false] at hk
    rcases hk with e | e
    · subst e; exact h1
    · subst e; exact h2)
end
end Go.Proofs.Ytbkedgpligcicaa
