import Derived.Test.YtifgcimmlonagaaDoorSuggestJ18
import Derived.Test.YtifgcimmlonagaaDoorSuggestJ22
import Derived.Laws.AppendOwnNone
import Derived.Shelf.SlSorted.Search
namespace Go.Proofs.YtifgcimmlonagaaDoor
open Go Go.RowKit
set_option linter.unusedVariables false
set_option maxRecDepth 100000
set_option linter.unusedSimpArgs false

/-! spec.l07Names. -/
/-- A slice of words in blocks below B. -/
def Sl (w : World) (B : Nat) (v : Value) (L : List Tx) : Prop := ∃ s cw, v = .slice s L.length cw ∧ L.length ≤ cw ∧ TmA w s L ∧ (L ≠ [] → ∀ g off, s = some ⟨g, off, none⟩ → g < B)
theorem TmA.drop {w : World} {g off : Nat} {W : List Tx} (h : TmA w (some ⟨g, off, none⟩) W) (n : Nat) : TmA w (some ⟨g, off + n, none⟩) (W.drop n) := by
  rcases h with h | ⟨g', off', h1, h2, h3⟩
  · exact .inl (by rw [h]; simp)
  · simp only [Option.some.injEq, Addr.mk.injEq, and_true] at h1
    obtain ⟨rfl, rfl⟩ := h1
    refine .inr ⟨g, off + n, rfl, h2, fun t ht => ?_⟩
    rw [List.length_drop] at ht
    have := h3 (n + t) (by omega)
    rw [Nat.add_assoc, this, List.getD_eq_getElem?_getD, List.getD_eq_getElem?_getD, List.getElem?_drop]
theorem TmA.take {w : World} {s : Option Addr} {W : List Tx} (h : TmA w s W) (n : Nat) : TmA w s (W.take n) := by
  rcases h with h | ⟨g', off', h1, h2, h3⟩
  · exact .inl (by rw [h]; simp)
  · refine .inr ⟨g', off', h1, h2, fun t ht => ?_⟩
    rw [List.length_take] at ht
    rw [h3 t (by omega), List.getD_eq_getElem?_getD, List.getD_eq_getElem?_getD, List.getElem?_take, if_pos (by omega)]
theorem Sl.keep {w w' : World} {B : Nat} {v : Value} {L : List Tx} (h : Sl w B v L) (hz : w.heap.size ≤ w'.heap.size) (hk : ∀ g, g < B → g < w.heap.size → w'.heap[g]? = w.heap[g]?) : Sl w' B v L := by
  obtain ⟨s, cw, h1, h2, h3, h4⟩ := h
  refine ⟨s, cw, h1, h2, ?_, h4⟩
  rcases h3 with h5 | ⟨g, off, h5, h6, h7⟩
  · exact .inl h5
  · by_cases hL : L = []
    · exact .inl hL
    · exact .inr ⟨g, off, h5, Nat.lt_of_lt_of_le h6 hz, fun t ht => (World.cell?_of_block (a := ⟨g, off + t, none⟩) (hk g (h4 hL g off h5) h6)).trans (h7 t ht)⟩
theorem Sl.below {w w' : World} {B : Nat} {v : Value} {L : List Tx} (h : Sl w B v L) (hb : Below w.heap.size w w') : Sl w' B v L := h.keep hb.size fun g _ hl => hb.block g hl
theorem Sl.mono {w : World} {B B' : Nat} {v : Value} {L : List Tx} (h : Sl w B v L) (hB : B ≤ B') : Sl w B' v L := by
  obtain ⟨s, cw, h1, h2, h3, h4⟩ := h
  exact ⟨s, cw, h1, h2, h3, fun hn g off e => Nat.lt_of_lt_of_le (h4 hn g off e) hB⟩
theorem Sl.own {w : World} {base : Nat} {v : Value} {L : List Tx} (h : w.ownsRow base 9 1 v L.length (tmCells L)) : Sl w w.heap.size v L := by
  rcases h.2 with ⟨h1, h2⟩ | ⟨g, cap, cur, h1, hb, hg, hc, _⟩
  · exact ⟨none, 0, by rw [h2]; exact h1, by omega, .inl (List.length_eq_zero_iff.1 h2), fun _ g off e => by cases e⟩
  · subst h1
    refine ⟨_, cap, rfl, hc, .inr ⟨g, 0, rfl, (Array.getElem?_eq_some_iff.1 hg).1, fun i hi => ?_⟩, fun _ g' off e => by cases e; exact (Array.getElem?_eq_some_iff.1 hg).1⟩
    rw [Nat.zero_add, h.cellAt i (by omega)]
    simp [tmCells, hi]
section
variable {ops : Array Oper} {rest : List Oper} {o : Oper} {a : Act} {w : World} {Q : Exit → Act → World → Prop}
set_option maxRecDepth 1000000 in
theorem wpSl_from {w0 : World} {B : Nat} (hgd : o.guard = none) (x y : Operand) (ho : o.op = .slice 23 x (some y) none none) (v : Value) (W : List Tx) (n : Nat) (hx : a.eval x = v) (hy : a.eval y = .int .i64 (n : Int)) (hst : Sl w0 B v W) (hs : n ≤ W.length) (hs1 : 1 ≤ n) (hl : W.length ≤ 1048576)
    (h : ∀ v', Sl w0 B v' (W.drop n) → wpList Tryd.prog ops Q rest (a.put o.dst v') w) : wpList Tryd.prog ops Q (o :: rest) a w := by
  obtain ⟨s, cap, rfl, hcap, hT, hg⟩ := hst
  obtain ⟨g, off, rfl, hgl, hc⟩ := hT.resolve_left (fun e => by rw [e] at hs; simp at hs; omega)
  have hr := run_slice_l (P := Tryd.prog) w 23 (some ⟨g, off, none⟩) W.length cap Tryd.underlying23 .i64 (n : Int) (by omega) (by omega)
  have hsz : (sizeOf (Tryd.prog.elem 23)).run Tryd.prog w = .ok 1 w := Tryd.sizeOf9 w
  rw [hsz] at hr
  simp only [Result.andThen_ok, Int.toNat_natCast, sliced, Nat.mul_one] at hr
  have hrr := run_sliceAt_slice (P := Tryd.prog) w 23 (.slice (some ⟨g, off, none⟩) W.length cap) (some (.int .i64 (n : Int))) none none Tryd.underlying23
  refine wpList_plain hgd fun K hK => ?_
  unfold Oper.wp execOp
  simp only [ho, Option.map_some, Option.map_none, hx, hy, Sem.run_bind, Sem.run_pure, Result.andThen_ok, hrr, hr]
  refine hK _ _ (h _ ?_)
  have hne : W ≠ [] := fun e => by rw [e] at hs; simp at hs; omega
  by_cases hcs : cap = n
  · have hdr : W.drop n = [] := List.drop_eq_nil_iff.2 (by omega)
    rw [if_pos hcs]
    have : W.length - n = 0 := by omega
    rw [this, hdr]
    exact ⟨_, _, rfl, by simp, .inl rfl, fun e => absurd rfl e⟩
  · rw [if_neg hcs]
    refine ⟨some ⟨g, off + n, none⟩, cap - n, ?_, by rw [List.length_drop]; omega, hT.drop n, fun _ g' off' e => ?_⟩
    · rw [List.length_drop]
      simp [Addr.add]
      try omega
    · cases e
      exact hg hne g off rfl
end
theorem exec_idx0 (W : World) (ρ : Operand → Value) (o : Oper) (x y : Operand) (ho : o.op = .indexAddr 23 x y) (g off la c : Nat) (hx : ρ x = .slice (some ⟨g, off, none⟩) la c) (hy : ρ y = .int .i64 0) (h : 0 < la) : (execOp ρ o).run Tryd.prog W = .ok (.value (.pointer (some ⟨g, off, none⟩))) W := by
  unfold execOp
  have hz : (0 : Int) < (la : Int) := by omega
  simp only [ho, hx, hy, Sem.run_bind, Sem.run_pure, Result.andThen_ok]
  go_simp
def pkA : List Tx → List Tx → Bool
  | _, [] => true
  | [], _ :: _ => false
  | a0 :: _, b0 :: _ => !(ltT b0 a0)
def NamesC (n : Nat) : Prop := ∀ (L : List Tx) (B : Nat) (v : Value) (w : World), L.length ≤ n → L.length ≤ 100000 → Sl w B v L →
  Calls Tryd.prog 22 #[v] w fun e w' => ∃ v', e = .returned v' ∧ w'.ownsRow w.heap.size 9 1 v' (names L).length (tmCells (names L)) ∧ Below w.heap.size w w'
theorem names_len (L : List Tx) : (names L).length ≤ L.length := by
  unfold names
  refine Nat.le_trans (compact_len _) ?_
  rw [(sorted_perm _).length_eq]
  exact Nat.le_refl _
set_option maxHeartbeats 16000000 in
theorem names_step (n : Nat) (hIH : ∀ k, k < n → NamesC k) : NamesC n := by
  intro L B v w hn hl hS
  obtain ⟨i0, hi0, hz0, hz1, hz2⟩ := info_parts Tryd.infoStrX
  have HIH := hidd hIH
  have HS := hidd hS
  obtain ⟨s, cw, rfl, hcw, hT, hg⟩ := hS
  have HT := hidd hT
  clear hIH hT hg
  by_cases h2 : L.length < 2
  · have h2z : (L.length : Int) < 2 := by omega
    have HE := hidd (names_short L h2)
    rw [HE.out]
    match L, h2, HT with
    | [], _, _ =>
      have HO := hidd (own_empty w 9)
      have HB : Hid (Below w.heap.size w (w.alloc (.cells #[] 9))) := (Below.refl _ _).alloc (Nat.le_refl _) _
      simp only [List.length_nil] at *
      cases s with
      | none =>
        go_enter Tryd.func22, Tryd.ntmps22
        go_wp2_with fail
        go_ret
        exact ⟨_, rfl, HO.out, HB.out⟩
      | some ad =>
        go_enter Tryd.func22, Tryd.ntmps22
        go_wp2_with fail
        go_ret
        exact ⟨_, rfl, HO.out, HB.out⟩
    | [x], _, HT =>
      obtain ⟨g, off, rfl, hgl, hc⟩ := HT.out.resolve_left (by simp)
      have x0 := hc 0 (by simp)
      simp only [Nat.add_zero, List.getD_cons_zero] at x0
      have HO := hidd (own_empty w 9)
      have hB : Below w.heap.size w (w.alloc (.cells #[] 9)) := (Below.refl _ _).alloc (Nat.le_refl _) _
      have HB := hidd hB
      have x1 := (hB.cell (p := ⟨g, off, none⟩) hgl).trans x0
      clear hc hB
      simp only [List.length_cons, List.length_nil, Nat.zero_add] at *
      go_enter Tryd.func22, Tryd.ntmps22
      go_wp2_with (at_builtin; refine wpList_append_own_at _ rfl _ _ 23 rfl w.heap.size 9 i0 (.string ⟨#[]⟩) 1 16 Tryd.underlying23 hi0 hz0 hz1 hz2 rfl (by decide) (.slice (some ⟨w.heap.size, 0, none⟩) 0 0) 0 [] rfl HO.out ⟨g, off, none⟩ 1 cw [.string (bs x)] rfl rfl ?c1 ?c2 ?c3 ?c4 ?c5 ?_)
      case c1 =>
        intro j u hj
        cases j with
        | zero => simp at hj; subst hj; simpa [Addr.add] using x1
        | succ j => simp at hj
      case c2 => intro u hu; simp at hu; subst hu; rfl
      case c3 => unfold maxLen; omega
      case c4 => omega
      case c5 => simp
      intro v6 w6 hown6 hgrow6 _ _
      have HO6 := hidd hown6
      have HB6 : Hid (Below w.heap.size w w6) := HB.out.grown hgrow6 (by simp) (fun k h => (HO.out.lt k h).1)
      clear hown6 hgrow6
      go_wp2_with fail
      go_ret
      exact ⟨_, rfl, HO6.out, HB6.out⟩
  · have h2z : ¬ (L.length : Int) < 2 := by omega
    obtain ⟨g, off, rfl, hgl, hc⟩ := HT.out.resolve_left (fun e => by rw [e] at h2; simp at h2)
    obtain ⟨k, hk⟩ : ∃ k, L.length / 2 = k := ⟨_, rfl⟩
    have hkz : (L.length : Int).tdiv 2 = (k : Int) := by rw [← hk]; rfl
    have hk1 : 1 ≤ k := by omega
    have hk2 : k < L.length := by omega
    have hkw : (k : Int) ≤ (cw : Int) := by omega
    have hkl : (k : Int) ≤ (L.length : Int) := by omega
    have HC1 : Hid (∀ W, Below w.heap.size w W → Calls Tryd.prog 22 #[.slice (some ⟨g, off, none⟩) k cw] W fun e w' => ∃ v', e = .returned v' ∧ w'.ownsRow W.heap.size 9 1 v' (names (L.take k)).length (tmCells (names (L.take k))) ∧ Below W.heap.size W w') := by
      intro W hW
      have hl1 : (L.take k).length = k := by rw [List.length_take]; omega
      obtain ⟨s', cw', e1, e2, e3, e4⟩ := HS.out.below hW
      simp only [Value.slice.injEq] at e1
      obtain ⟨rfl, _, rfl⟩ := e1
      exact HIH.out k (by omega) (L.take k) B _ W (by omega) (by omega) ⟨_, _, by rw [hl1], by rw [hl1]; omega, e3.take k, fun _ => e4 (fun e => by rw [e] at h2; simp at h2)⟩
    have HC2 : Hid (∀ v' W, Sl W B v' (L.drop k) → Calls Tryd.prog 22 #[v'] W fun e w' => ∃ v', e = .returned v' ∧ w'.ownsRow W.heap.size 9 1 v' (names (L.drop k)).length (tmCells (names (L.drop k))) ∧ Below W.heap.size W w') := fun v' W h => HIH.out (L.length - k) (by omega) (L.drop k) B v' W (by rw [List.length_drop]; omega) (by rw [List.length_drop]; omega) h
    have HM := hidd (Mg.start (L := L) k)
    have hn1 := names_len (L.take k)
    have hn2 := names_len (L.drop k)
    rw [List.length_take] at hn1
    rw [List.length_drop] at hn2
    generalize hA0 : names (L.take k) = A0 at *
    generalize hB0 : names (L.drop k) = B0 at *
    clear hA0 hB0 hc hk
    go_enter Tryd.func22, Tryd.ntmps22
    go_wp2_with fail
    refine (HC1.out _ (Below.refl _ _)).mono ?_
    rintro e w1 ⟨v1, rfl, hown1, hb1⟩
    have HS1 := hidd (HS.out.below hb1)
    have HA1 := hidd (Sl.own hown1)
    have HB1 := hidd hb1
    clear hown1 hb1 HC1
    have hck : ¬ cw = k := by omega
    have HC3 : Hid (Calls Tryd.prog 22 #[.slice (some ⟨g, off + k, none⟩) (L.length - k) (cw - k)] w1 fun e w' => ∃ v', e = .returned v' ∧ w'.ownsRow w1.heap.size 9 1 v' B0.length (tmCells B0) ∧ Below w1.heap.size w1 w') := by
      refine HC2.out _ w1 ?_
      obtain ⟨s', cw', e1, e2, e3, e4⟩ := HS1.out
      simp only [Value.slice.injEq] at e1
      obtain ⟨rfl, _, rfl⟩ := e1
      exact ⟨_, _, by rw [List.length_drop], by rw [List.length_drop]; omega, e3.drop k, fun _ g' off' e => by cases e; exact e4 (fun e => by rw [e] at h2; simp at h2) g off rfl⟩
    go_wp2_with fail
    refine HC3.out.mono ?_
    rintro e w2 ⟨v2, rfl, hown2, hb2⟩
    have HA2 := hidd ((HA1.out.below hb2).mono hb2.size)
    have HB2 := hidd (Sl.own hown2)
    have HBw := hidd (HB1.out.trans (hb2.mono HB1.out.size))
    clear hown2 hb2 HC2 HC3 HA1 HB1 HS1 hck
    have HO := hidd (own_empty w2 9)
    have hB3 : Below w2.heap.size w2 (w2.alloc (.cells #[] 9)) := (Below.refl _ _).alloc (Nat.le_refl _) _
    have HA3 := hidd (HA2.out.below hB3)
    have HB3 := hidd (HB2.out.below hB3)
    have HBw3 := hidd (HBw.out.trans (hB3.mono HBw.out.size))
    have hz2w := HBw.out.size
    clear hB3 HA2 HB2 HBw
    go_wp2_with fail
    go_loopw [3, 4, 5] (fun va vb vo wr => ∃ (A B O : List Tx), Mg L A B O ∧ Sl wr w2.heap.size va A ∧ Sl wr w2.heap.size vb B ∧ wr.ownsRow w2.heap.size 9 1 vo O.length (tmCells O) ∧ Below w.heap.size w wr ∧ w2.heap.size ≤ wr.heap.size ∧ O.length + A.length + B.length ≤ 100000) (fun va vb _ _ => vlenW va + vlenW vb)
    case atStart => exact ⟨A0, B0, [], HM.out, HA3.out, HB3.out, HO.out, HBw3.out, by simp, by simp; omega⟩
    case round =>
      obtain ⟨A, B', O, hmg, hsa, hsb, hown, hbel, hzz, hlen⟩ := hrel
      clear HA3 HB3 HO HBw3 HM
      have HM := hidd hmg
      have HA := hidd hsa
      have HB := hidd hsb
      have HO := hidd hown
      have HW := hidd hbel
      obtain ⟨sa, ca, rfl, hca, hta, -⟩ := hsa
      obtain ⟨sb, cb, rfl, hcb, htb, -⟩ := hsb
      clear hmg hown hbel
      by_cases he : A = [] ∧ B' = []
      · obtain ⟨rfl, rfl⟩ := he
        have HE := hidd HM.out.done
        simp only [List.length_nil] at *
        go_wp2_with fail
        go_ret
        exact ⟨_, rfl, by rw [← HE.out]; exact own_mono HO.out hz2w, HW.out⟩
      obtain ⟨pk, hpk⟩ : ∃ pk : Bool, pkA A B' = pk := ⟨_, rfl⟩
      have hor : ((A.length : Int) > 0) ∨ ((B'.length : Int) > 0) := by
        by_cases h1 : A = []
        · by_cases h2 : B' = []
          · exact absurd ⟨h1, h2⟩ he
          · have := List.length_pos_iff.2 h2; exact .inr (by omega)
        · have := List.length_pos_iff.2 h1; exact .inl (by omega)
      have Hor := hidd hor
      clear hor he
      have HAB : Hid (∃ q, wr = wr.drewN q) := ⟨0, rfl⟩
      go_upto_region 6 with fail
      go_cut [33] (fun c wy => c = .bool true ∧ wy = wr)
      case first =>
        cases h1 : decide (0 < A.length) with
        | true =>
          go_wp2_with fail
          go_meet
          case rel => exact ⟨rfl, rfl⟩
        | false =>
          have h2 : decide (0 < B'.length) = true := by
            rw [decide_eq_false_iff_not] at h1
            rcases Hor.out with h | h
            · omega
            · exact decide_eq_true (by omega)
          go_wp2_with fail
          go_meet
          case rel => exact ⟨rfl, rfl⟩
      case rest =>
        obtain ⟨rfl, hww⟩ := hcut
        obtain rfl := hww.symm
        clear hww HAB
        go_upto_region 8 with fail
        go_cut [50] (fun c wy => c = .bool pk ∧ ∃ q, wy = wr.drewN q)
        case first =>
          cases B' with
          | nil =>
            have Hpk : Hid (true = pk) := by cases A <;> exact hpk
            clear hpk
            simp only [List.length_nil] at *
            go_wp2_with fail
            go_quiet (fail)
            go_wp2_with fail
            go_meet
            case rel => exact ⟨by rw [← Hpk.out], _, rfl⟩
          | cons b0 B2 =>
            have hb0 : (((b0 :: B2).length : Int) == 0) = false := by rw [beq_eq_false_iff_ne]; simp; omega
            cases A with
            | nil =>
              have Hpk : Hid (false = pk) := hpk
              clear hpk
              simp only [List.length_nil] at *
              generalize (b0 :: B2).length = lb at *
              go_wp2_with fail
              go_quiet (fail)
              go_wp2_with fail
              go_meet
              case rel => exact ⟨by rw [← Hpk.out], _, rfl⟩
            | cons a0 A2 =>
              have Hpk : Hid ((!(ltT b0 a0)) = pk) := hpk
              obtain ⟨ga, offa, rfl, hga, hca'⟩ := hta.resolve_left (by simp)
              obtain ⟨gb, offb, rfl, hgb, hcb'⟩ := htb.resolve_left (by simp)
              have xa := hca' 0 (by simp)
              have xb := hcb' 0 (by simp)
              simp only [Nat.add_zero, List.getD_cons_zero] at xa xb
              have hle : (Op.bytesLess (bs a0).toList (bs b0).toList || (bs a0).toList == (bs b0).toList) = pk := by
                rw [bs_tl, bs_tl, ← Hpk.out, ← gtr_lt, Bool.not_not]
              have ha0 : decide (((a0 :: A2).length : Int) > 0) = true := by simp
              have ha1 : (0 : Int) < ((a0 :: A2).length : Int) := by simp
              have hb1 : (0 : Int) < ((b0 :: B2).length : Int) := by simp
              clear hca' hcb' hpk
              generalize bs a0 = SA at *
              generalize bs b0 = SB at *
              generalize (a0 :: A2).length = la at *
              generalize (b0 :: B2).length = lb at *
              refine wp_region_held_drew (S := fun W1 => W1.cell? ⟨ga, offa, none⟩ = some (.string SA) ∧ W1.cell? ⟨gb, offb, none⟩ = some (.string SB)) (by kernel_rfl) ?_ (fun hHeld => ?_)
              · exact ⟨xa, xb⟩
              refine tkX 0 (h := ?_)
              refine tkX 1 (h := ?_)
              (simp only [Act.put, List.getElem_toArray, List.getElem_cons_succ, List.getElem_cons_zero, List.setIfInBounds_toArray, List.set_cons_zero, List.set_cons_succ])
              refine tkW 2 (v := .bool false) (hx := ?_) (h := ?_)
              · intro W1 _; go_simp
              (simp only [Act.put, List.getElem_toArray, List.getElem_cons_succ, List.getElem_cons_zero, List.setIfInBounds_toArray, List.set_cons_zero, List.set_cons_succ])
              refine tkX 3 (h := ?_)
              refine tkX 4 (h := ?_)
              refine tkX 5 (h := ?_)
              (simp only [Act.put, List.getElem_toArray, List.getElem_cons_succ, List.getElem_cons_zero, List.setIfInBounds_toArray, List.set_cons_zero, List.set_cons_succ])
              refine tkW 6 (v := .bool true) (hx := ?_) (h := ?_)
              · intro W1 _; go_simp; omega
              (simp only [Act.put, List.getElem_toArray, List.getElem_cons_succ, List.getElem_cons_zero, List.setIfInBounds_toArray, List.set_cons_zero, List.set_cons_succ])
              refine tkX 7 (h := ?_)
              refine tkX 8 (h := ?_)
              (simp only [Act.put, List.getElem_toArray, List.getElem_cons_succ, List.getElem_cons_zero, List.setIfInBounds_toArray, List.set_cons_zero, List.set_cons_succ])
              refine tkW 9 (v := .pointer (some ⟨ga, offa, none⟩)) (hx := fun W1 _ => exec_idx0 W1 _ _ _ _ rfl ga offa la ca (by kernel_rfl) (by kernel_rfl) (by omega)) (h := ?_)
              (simp only [Act.put, List.getElem_toArray, List.getElem_cons_succ, List.getElem_cons_zero, List.setIfInBounds_toArray, List.set_cons_zero, List.set_cons_succ])
              refine tkX 10 (h := ?_)
              refine tkX 11 (h := ?_)
              (simp only [Act.put, List.getElem_toArray, List.getElem_cons_succ, List.getElem_cons_zero, List.setIfInBounds_toArray, List.set_cons_zero, List.set_cons_succ])
              refine tkW 12 (v := .pointer (some ⟨gb, offb, none⟩)) (hx := fun W1 _ => exec_idx0 W1 _ _ _ _ rfl gb offb lb cb (by kernel_rfl) (by kernel_rfl) (by omega)) (h := ?_)
              (simp only [Act.put, List.getElem_toArray, List.getElem_cons_succ, List.getElem_cons_zero, List.setIfInBounds_toArray, List.set_cons_zero, List.set_cons_succ])
              refine tkX 13 (h := ?_)
              (simp only [Act.put, List.getElem_toArray, List.getElem_cons_succ, List.getElem_cons_zero, List.setIfInBounds_toArray, List.set_cons_zero, List.set_cons_succ])
              refine tkW 14 (v := .bool pk) (hx := ?_) (h := ?_)
              · intro W1 _; go_simp
              (simp only [Act.put, List.getElem_toArray, List.getElem_cons_succ, List.getElem_cons_zero, List.setIfInBounds_toArray, List.set_cons_zero, List.set_cons_succ])
              refine tkX 15 (h := ?_)
              refine tkX 16 (h := ?_)
              (simp only [Act.put, List.getElem_toArray, List.getElem_cons_succ, List.getElem_cons_zero, List.setIfInBounds_toArray, List.set_cons_zero, List.set_cons_succ])
              refine wpAnyH_done (by kernel_rfl) ?_ _
              go_wp2_with fail
              go_meet
              exact ⟨rfl, 1, rfl⟩
        case rest =>
          obtain ⟨rfl, q, hwq⟩ := hcut
          have HBq : Hid (Below wr.heap.size wr wc) := by rw [hwq]; exact below_drewN (Below.refl _ _) q
          have HAq := hidd (HA.out.below HBq.out)
          have HBbq := hidd (HB.out.below HBq.out)
          have HOq := hidd (own_below HO.out HBq.out)
          have HWq := hidd (HW.out.trans (HBq.out.mono HW.out.size))
          have hzq : w2.heap.size ≤ wc.heap.size := Nat.le_trans hzz HBq.out.size
          clear hwq HA HB HO HW hta htb HBq
          have hla : A.length ≤ 100000 := by omega
          have hlb : B'.length ≤ 100000 := by omega
          go_upto_if 50 with fail
          go_cut [3, 4, 6] (fun va vb tv wy => ∃ (A2 B2 : List Tx) (x : Tx), tv = .string (bs x) ∧ Sl wy w2.heap.size va A2 ∧ Sl wy w2.heap.size vb B2 ∧ (∀ o ∈ O, ltT x o = false) ∧ (x ∈ O → Mg L A2 B2 O) ∧ (x ∉ O → Mg L A2 B2 (O ++ [x])) ∧ A2.length + B2.length + 1 = A.length + B'.length ∧ wy = wc)
          case first =>
            cases pk with
            | true =>
              obtain ⟨a0, A2, hA⟩ : ∃ a0 A2, A = a0 :: A2 := by
                cases A with
                | cons a0 A2 => exact ⟨a0, A2, rfl⟩
                | nil =>
                  cases B' with
                  | nil => rcases Hor.out with h | h <;> simp at h
                  | cons b0 B2 => cases hpk
              have hyb : ∀ y ∈ B', ltT y a0 = false := by
                intro y hy
                cases B' with
                | nil => cases hy
                | cons b0 B2 =>
                  rw [hA] at hpk
                  have h1 : ltT b0 a0 = false := by simpa [pkA] using hpk
                  rcases List.mem_cons.1 hy with rfl | hy
                  · exact h1
                  · exact ltT_nt a0 b0 y h1 (rise_le HM.out.rb y hy)
              have hMt : _ := Mg.take (L := L) (A := A2) (B := B') (O := O) (x := a0) (by rw [← hA]; exact HM.out) hyb
              have HMt := hidd hMt
              obtain ⟨s', cw', e1, e2, e3, e4⟩ := HAq.out
              simp only [Value.slice.injEq] at e1
              obtain ⟨rfl, _, rfl⟩ := e1
              have hAp : 0 < A.length := by rw [hA]; simp
              obtain ⟨ga, offa, rfl, hga, hca'⟩ := e3.resolve_left (fun h => by rw [h] at hAp; simp at hAp)
              have xa := hca' 0 hAp
              rw [Nat.add_zero] at xa
              have hgd : A.getD 0 [] = a0 := by rw [hA]; rfl
              rw [hgd] at xa
              have hdr : A.drop 1 = A2 := by rw [hA]; rfl
              have hll : A2.length + 1 = A.length := by rw [hA]; rfl
              have Hdr := hidd hdr
              have hApz : (0 : Int) < (A.length : Int) := by omega
              clear hca' e2 e4 e3 hgd hdr hA hpk hyb hMt Hor
              go_upto_region 10 with fail
              generalize Value.slice (some ⟨ga, offa, none⟩) A.length ca = va at *
              go_wp2_with (first | (refine wpSl_from rfl _ _ rfl _ A 1 rfl rfl HAq.out hAp (Nat.le_refl _) (by omega) ?_; intro v6 hv6; have HS6 := hidd hv6; clear hv6))
              go_meet
              case rel => exact ⟨A2, B', a0, rfl, by rw [← Hdr.out]; exact HS6.out, HBbq.out, HMt.out.1, HMt.out.2.1, HMt.out.2.2, by omega, rfl⟩
            | false =>
              obtain ⟨b0, B2, hB⟩ : ∃ b0 B2, B' = b0 :: B2 := by
                cases B' with
                | cons b0 B2 => exact ⟨b0, B2, rfl⟩
                | nil => cases A <;> cases hpk
              have hyb : ∀ y ∈ A, ltT y b0 = false := by
                intro y hy
                cases A with
                | nil => cases hy
                | cons a0 A2 =>
                  rw [hB] at hpk
                  have h1 : ltT b0 a0 = true := by simpa [pkA] using hpk
                  rcases List.mem_cons.1 hy with rfl | hy
                  · exact ltT_asym _ _ h1
                  · exact ltT_nt b0 a0 y (ltT_asym _ _ h1) (rise_le HM.out.ra y hy)
              have hMt : _ := Mg.take (L := L) (A := B2) (B := A) (O := O) (x := b0) (by rw [← hB]; exact HM.out.swap) hyb
              have HMt := hidd hMt
              obtain ⟨s', cw', e1, e2, e3, e4⟩ := HBbq.out
              simp only [Value.slice.injEq] at e1
              obtain ⟨rfl, _, rfl⟩ := e1
              have hBp : 0 < B'.length := by rw [hB]; simp
              obtain ⟨gb, offb, rfl, hgb, hcb'⟩ := e3.resolve_left (fun h => by rw [h] at hBp; simp at hBp)
              have xb := hcb' 0 hBp
              rw [Nat.add_zero] at xb
              have hgd : B'.getD 0 [] = b0 := by rw [hB]; rfl
              rw [hgd] at xb
              have hdr : B'.drop 1 = B2 := by rw [hB]; rfl
              have hll : B2.length + 1 = B'.length := by rw [hB]; rfl
              have Hdr := hidd hdr
              have hBpz : (0 : Int) < (B'.length : Int) := by omega
              clear hcb' e2 e4 e3 hgd hdr hB hpk hyb hMt Hor
              go_upto_region 12 with fail
              generalize Value.slice (some ⟨gb, offb, none⟩) B'.length cb = vb at *
              go_wp2_with (first | (refine wpSl_from rfl _ _ rfl _ B' 1 rfl rfl HBbq.out hBp (Nat.le_refl _) (by omega) ?_; intro v6 hv6; have HS6 := hidd hv6; clear hv6))
              go_meet
              case rel => exact ⟨A, B2, b0, rfl, HAq.out, by rw [← Hdr.out]; exact HS6.out, HMt.out.1, fun h => (HMt.out.2.1 h).swap, fun h => (HMt.out.2.2 h).swap, by omega, rfl⟩
          case rest =>
            obtain ⟨A2, B2, x, rfl, hsA, hsB, hle, hin, hnin, hll, hww⟩ := hcut
            obtain rfl := hww.symm
            have HsA := hidd hsA
            have HsB := hidd hsB
            have Hin := hidd hin
            have Hnin := hidd hnin
            obtain ⟨nb, hnb⟩ : ∃ nb : Bool, decide (x ∉ O) = nb := ⟨_, rfl⟩
            have HVl : Hid (vlenW (.slice sa A.length ca) + vlenW (.slice sb B'.length cb) = A.length + B'.length) := rfl
            have HRo := hidd HM.out.ro
            clear hww hsA hsB hin hnin HAq HBbq HM hpk Hor
            go_upto_region 13 with fail
            go_cut [73] (fun c wy => c = .bool nb ∧ wy = wc)
            case first =>
              rcases List.eq_nil_or_concat O with hO | ⟨O', o, hO⟩
              · have hnb' : nb = true := by rw [← hnb, hO]; simp
                have HOq' := HOq.out
                rw [hO] at HOq'
                simp only [List.length_nil] at HOq'
                clear hle Hin Hnin hnb HRo
                rcases own_cases HOq' with ⟨e1, -⟩ | ⟨g, cap, e1, -, -⟩
                · subst e1
                  go_wp2_with fail
                  go_meet
                  case rel => exact ⟨by rw [hnb'], rfl⟩
                · subst e1
                  go_wp2_with fail
                  go_meet
                  case rel => exact ⟨by rw [hnb'], rfl⟩
              · have hO2 : O = O' ++ [o] := by rw [hO, List.concat_eq_append]
                have hnb' : (!((bs o).toList == (bs x).toList)) = nb := by
                  rw [← hnb, bs_tl, bs_tl, hO2]
                  have hk := Mg.last (x := x) (by rw [← hO2]; exact HRo.out) (by rw [← hO2]; exact hle)
                  by_cases hox : o = x
                  · have h3 := hk.2 hox
                    rw [hox] at h3 ⊢
                    simp
                  · have h3 : ¬ x ∈ O' ++ [o] := fun h => hox (hk.1 h)
                    rw [decide_eq_true h3, Bool.not_eq_true', beq_eq_false_iff_ne]
                    exact hox
                have hm : O.length = O'.length + 1 := by rw [hO2]; simp
                obtain ⟨g, cap, e1, -, -⟩ := (own_cases HOq.out).resolve_left (fun h => by omega)
                subst e1
                have x0 : wc.cell? ⟨g, O'.length, none⟩ = some (.string (bs o)) := by
                  have h1 := HOq.out.cellAt O'.length (by omega)
                  rw [h1, hO2, tmCells_snoc, List.getElem?_append_right (by simp [tmCells])]
                  simp [tmCells]
                have hi1 : ((O'.length + 1 : Nat) : Int) - 1 = (O'.length : Int) := by omega
                have hi2 : ((O'.length + 1 : Nat) : Int) ≠ 0 := by omega
                have hi3 : (((O'.length + 1 : Nat) : Int) == 0) = false := by rw [beq_eq_false_iff_ne]; omega
                have hmb : O'.length < 100000 := by omega
                clear hle Hin Hnin hnb HRo hO hO2
                rw [hm] at *
                clear HOq
                generalize O'.length = m at *
                have hwr : wrap64 (m : Int) = (m : Int) := by unfold wrap64; omega
                have hmm : (m : Int) < (m : Int) + 1 := by omega
                go_wp2_with fail
                go_meet
                case rel => exact ⟨by rw [← hnb', show ((m : Int) + 1 == 0) = false by rw [beq_eq_false_iff_ne]; omega, Bool.false_or], rfl⟩
            case rest =>
              obtain ⟨rfl, hww⟩ := hcut
              obtain rfl := hww.symm
              clear hww HRo hle
              obtain ⟨s1, c1, e1, -, -, -⟩ := HsA.out
              obtain ⟨s2, c2, e2, -, -, -⟩ := HsB.out
              have Hm : Hid (vlenW u3 + vlenW u4 < vlenW (.slice sa A.length ca) + vlenW (.slice sb B'.length cb)) := by
                show _ < _
                rw [e1, e2]
                show A2.length + B2.length < A.length + B'.length
                omega
              clear e1 e2
              go_upto_if 73 with fail
              cases nb with
              | false =>
                have HMg := hidd (Hin.out (by simpa using hnb))
                clear Hin Hnin hnb
                go_wp2_with fail
                go_roundw
                case rel => exact ⟨A2, B2, O, HMg.out, HsA.out, HsB.out, HOq.out, HWq.out, hzq, by omega⟩
                case measure => exact Hm.out
              | true =>
                have HMg := hidd (Hnin.out (by simpa using hnb))
                clear Hin Hnin hnb
                have hOl : O.length < 100000 := by omega
                go_wp2_with (at_builtin; refine wpList_append_own_at _ rfl _ _ 23 rfl w2.heap.size 9 i0 (.string ⟨#[]⟩) 1 16 Tryd.underlying23 hi0 hz0 hz1 hz2 rfl (by decide) _ _ _ rfl (HOq.out.alloc _) ⟨wc.heap.size, 0, none⟩ 1 1 [.string (bs x)] rfl rfl ?c1 ?c2 ?c3 ?c4 ?c5 ?_)
                case c1 =>
                  intro j u hj
                  cases j with
                  | zero => simp at hj; subst hj; rw [add_head]; exact blkc (heap_alloc_new wc _) 0
                  | succ j => simp at hj
                case c2 => intro u hu; simp at hu; subst hu; rfl
                case c3 => unfold maxLen; omega
                case c4 => omega
                case c5 => simp; omega
                intro v6 w6 hown6 hgrow6 _ _
                have HO6 : Hid (w6.ownsRow w2.heap.size 9 1 v6 (O ++ [x]).length (tmCells (O ++ [x]))) := by
                  rw [tmCells_snoc, List.length_append, List.length_singleton]
                  exact hown6
                have hwb : w.heap.size ≤ w2.heap.size := hz2w
                have HB6 : Hid (Below w.heap.size w w6) := (HWq.out.alloc (by omega) _).grown hgrow6 (by simp only [World.size_alloc]; omega) (fun k h => Nat.le_trans hwb (HOq.out.lt k h).1)
                have hz6 : wc.heap.size ≤ w6.heap.size := by
                  have := hgrow6.size
                  simp only [World.size_alloc] at this
                  omega
                have hk6 : ∀ g, g < w2.heap.size → g < wc.heap.size → w6.heap[g]? = wc.heap[g]? := fun g hg hg2 =>
                  (hgrow6.block g (by simp only [World.size_alloc]; omega) (fun e => by have := (HOq.out.lt g e.symm).1; omega)).trans (((Below.refl wc.heap.size wc).alloc (Nat.le_refl _) _).block g hg2)
                have HsA6 := hidd (HsA.out.keep hz6 hk6)
                have HsB6 := hidd (HsB.out.keep hz6 hk6)
                clear hown6 hgrow6 hk6
                go_wp2_with fail
                go_roundw
                case rel => exact ⟨A2, B2, O ++ [x], HMg.out, HsA6.out, HsB6.out, HO6.out, HB6.out, by omega, by rw [List.length_append, List.length_singleton]; omega⟩
                case measure => exact Hm.out
theorem names_all : ∀ n, NamesC n := by
  intro n
  induction n using Nat.strongRecOn with
  | ind n ih => exact names_step n ih
theorem specNames_any (L : List Tx) (B : Nat) (v : Value) (w : World) (hl : L.length ≤ 100000) (h : Sl w B v L) :
    Calls Tryd.prog 22 #[v] w fun e w' => ∃ v', e = .returned v' ∧ w'.ownsRow w.heap.size 9 1 v' (names L).length (tmCells (names L)) ∧ Below w.heap.size w w' :=
  names_all L.length L B v w (Nat.le_refl _) hl h
end Go.Proofs.YtifgcimmlonagaaDoor
