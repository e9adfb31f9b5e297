import Derived.Test.YtmnfioghhdgciaaDoorWildJ12
namespace Go.Proofs.YtmnfioghhdgciaaDoor
open Go Go.RowKit
set_option linter.unusedVariables false
set_option linter.unusedSimpArgs false
set_option maxRecDepth 100000

/-! An automaton that is marked: laws.markDfa, laws.heldDfa. -/
theorem own_setG {W : World} {base e size n g cap j : Nat} {xs : List Value} (h : W.ownsRow base e size (.slice (some ⟨g, 0, none⟩) n cap) n xs) (u : Value) (hj : j < xs.length) : (W.setCell ⟨g, j, none⟩ u).ownsRow base e size (.slice (some ⟨g, 0, none⟩) n cap) n (xs.set j u) := by
  refine ⟨by rw [List.length_set]; exact h.1, ?_⟩
  rcases h.2 with ⟨h', _⟩ | ⟨g', cap', cur, h1, h2, h3, h4, h5, h6, h7⟩
  · cases h'
  · simp only [Value.slice.injEq, Option.some.injEq, Addr.mk.injEq, and_true, true_and] at h1
    obtain ⟨rfl, rfl⟩ := h1
    refine Or.inr ⟨g, cap, cur.setIfInBounds j u, rfl, h2, blk_setk h3 j u, h4, h5, by rw [Array.size_setIfInBounds]; exact h6, ?_⟩
    rw [← h7, Array.toList_setIfInBounds, List.take_set]
theorem arcCells_len (l : List (Int × Int)) : (arcCells l).length = l.length * 2 := by
  induction l with
  | nil => rfl
  | cons x l ih => show (.int .i64 x.1 :: .int .i64 x.2 :: arcCells l).length = _; simp [ih]; omega
theorem stCells_len (l : List MSt) : (stCells l).length = l.length * 3 := by
  induction l with
  | nil => rfl
  | cons x l ih => show (.bool x.2.1 :: x.1 :: .int .i64 x.2.2.2 :: stCells l).length = _; simp [ih]; omega
theorem arc_set1 (A B : List (Int × Int)) (p : Int × Int) (u : Int) : (arcCells (A ++ p :: B)).set (A.length * 2) (.int .i64 u) = arcCells (A ++ (u, p.2) :: B) := by
  induction A with
  | nil => rfl
  | cons x A ih =>
    have e : (x :: A).length * 2 = A.length * 2 + 1 + 1 := by simp; omega
    show (.int .i64 x.1 :: .int .i64 x.2 :: arcCells (A ++ p :: B)).set ((x :: A).length * 2) _ = .int .i64 x.1 :: .int .i64 x.2 :: arcCells (A ++ (u, p.2) :: B)
    rw [e, List.set_cons_succ, List.set_cons_succ, ih]
theorem arc_set2 (A B : List (Int × Int)) (p : Int × Int) (u : Int) : (arcCells (A ++ p :: B)).set (A.length * 2 + 1) (.int .i64 u) = arcCells (A ++ (p.1, u) :: B) := by
  induction A with
  | nil => rfl
  | cons x A ih =>
    have e : (x :: A).length * 2 + 1 = A.length * 2 + 1 + 1 + 1 := by simp; omega
    show (.int .i64 x.1 :: .int .i64 x.2 :: arcCells (A ++ p :: B)).set ((x :: A).length * 2 + 1) _ = .int .i64 x.1 :: .int .i64 x.2 :: arcCells (A ++ (p.1, u) :: B)
    rw [e, List.set_cons_succ, List.set_cons_succ, ih]
theorem st_set0 (A B : List MSt) (v : Value) (f f' : Bool) (rs : List (Int × Int)) (e : Int) : (stCells (A ++ (v, f, rs, e) :: B)).set (A.length * 3) (.bool f') = stCells (A ++ (v, f', rs, e) :: B) := by
  induction A with
  | nil => rfl
  | cons x A ih =>
    have e1 : (x :: A).length * 3 = A.length * 3 + 1 + 1 + 1 := by simp; omega
    show (.bool x.2.1 :: x.1 :: .int .i64 x.2.2.2 :: stCells (A ++ (v, f, rs, e) :: B)).set ((x :: A).length * 3) _ = .bool x.2.1 :: x.1 :: .int .i64 x.2.2.2 :: stCells (A ++ (v, f', rs, e) :: B)
    rw [e1, List.set_cons_succ, List.set_cons_succ, List.set_cons_succ, ih]
theorem st_set2 (A B : List MSt) (v : Value) (f : Bool) (rs : List (Int × Int)) (e e' : Int) : (stCells (A ++ (v, f, rs, e) :: B)).set (A.length * 3 + 2) (.int .i64 e') = stCells (A ++ (v, f, rs, e') :: B) := by
  induction A with
  | nil => rfl
  | cons x A ih =>
    have e1 : (x :: A).length * 3 + 2 = A.length * 3 + 2 + 1 + 1 + 1 := by simp; omega
    show (.bool x.2.1 :: x.1 :: .int .i64 x.2.2.2 :: stCells (A ++ (v, f, rs, e) :: B)).set ((x :: A).length * 3 + 2) _ = .bool x.2.1 :: x.1 :: .int .i64 x.2.2.2 :: stCells (A ++ (v, f, rs, e') :: B)
    rw [e1, List.set_cons_succ, List.set_cons_succ, List.set_cons_succ, ih]
/-- The marks of arcs. -/
def mkAr (k : Nat) : Nat → List (Int × Int)
  | 0 => []
  | n + 1 => ((k : Int), ((k + 1 : Nat) : Int)) :: mkAr (k + 2) n
theorem mkAr_len : ∀ (n k : Nat), (mkAr k n).length = n
  | 0, k => rfl
  | n + 1, k => by simp [mkAr, mkAr_len n]
def mkS : Nat → List MSt → List MSt
  | _, [] => []
  | k, s :: l => (s.1, ((k : Int) % 3 == 0), mkAr (k + 1) s.2.2.1.length, ((k + 1 + 2 * s.2.2.1.length : Nat) : Int)) :: mkS (k + 2 + 2 * s.2.2.1.length) l
def mkK : Nat → List MSt → Nat
  | k, [] => k
  | k, s :: l => mkK (k + 2 + 2 * s.2.2.1.length) l
theorem mkS_len : ∀ (l : List MSt) (k : Nat), (mkS k l).length = l.length
  | [], k => rfl
  | s :: l, k => by simp [mkS, mkS_len l]
set_option maxHeartbeats 4000000 in
theorem markArcs_any (base : Nat) (va : Value) (rs : List (Int × Int)) (k N : Nat) (w : World) (hN : N = k + 2 * rs.length) (hn : rs.length ≤ 1048576) (hk : k ≤ 1099511627776) (h : w.ownsRow base 92 2 va rs.length (arcCells rs)) :
    Calls Tryd.prog 45 #[va, .int .i64 (k : Int)] w fun e w' => e = .returned (.int .i64 (N : Int)) ∧ w'.ownsRow base 92 2 va rs.length (arcCells (mkAr k rs.length)) ∧ But (fun b => va.ownBlock = some b) w w' := by
  have HI0 : Hid (∃ A B, A ++ B = rs ∧ w.ownsRow base 92 2 va rs.length (arcCells rs)) := ⟨[], rs, rfl, h⟩
  obtain ⟨ad, cap, rfl⟩ : ∃ ad cap, va = .slice ad rs.length cap := own_slk h
  have H := hidd h
  have HNN := hidd hN
  clear h HI0 hN
  go_enter Tryd.func45, Tryd.ntmps45
  go_wp2_with fail
  go_loopw [5, 1] (fun iv kv wr => ∃ (A B : List (Int × Int)) (i K : Nat), A.length = i ∧ i + B.length = rs.length ∧ K = k + 2 * i ∧ iv = .int .i64 (i : Int) ∧ kv = .int .i64 (K : Int) ∧ A ++ mkAr K B.length = mkAr k rs.length ∧ wr.ownsRow base 92 2 (.slice ad rs.length cap) rs.length (arcCells (A ++ B)) ∧ But (fun b => (Value.slice ad rs.length cap).ownBlock = some b) w wr) (fun iv _ _ => rs.length - (intOf iv).toNat)
  case atStart => exact ⟨[], rs, 0, k, rfl, by simp, by omega, rfl, rfl, rfl, H.out, But.refl _ _⟩
  case round =>
    clear H
    obtain ⟨A, B, i, K, hAi, hAB, hK, rfl, rfl, hmk, hown, hbut⟩ := hrel
    have HM := hidd hmk
    have HO := hidd hown
    have HB := hidd hbut
    have HAi := hidd hAi
    clear hmk hbut hAi
    cases B with
    | nil =>
      obtain rfl : i = rs.length := by simpa using hAB
      have hltz : ¬ (rs.length : Int) < (rs.length : Int) := by omega
      have HK := hidd hK
      clear hown hK
      go_wp2_with fail
      go_ret
      have e1 : A = mkAr k rs.length := by have := HM.out; simpa [mkAr] using this
      refine ⟨by rw [HNN.out, ← HK.out]; rfl, ?_, HB.out⟩
      rw [← e1]
      have := HO.out
      rw [List.append_nil] at this
      exact this
    | cons p B =>
      rw [List.length_cons] at hAB
      have hlt : i < rs.length := by omega
      have hltz : (i : Int) < (rs.length : Int) := by omega
      obtain ⟨g, cap', hg⟩ := own_posk hown (by omega)
      simp only [Value.slice.injEq] at hg
      obtain ⟨rfl, -, rfl⟩ := hg
      have hcl : ∀ q : Int × Int, (arcCells (A ++ q :: B)).length = rs.length * 2 := fun q => by rw [arcCells_len, List.length_append, List.length_cons, HAi.out]; omega
      have e1 := own_setG hown (.int .i64 (K : Int)) (j := i * 2) (by rw [hcl]; omega)
      rw [← HAi.out, arc_set1, HAi.out] at e1
      have e2 := own_setG e1 (.int .i64 ((K + 1 : Nat) : Int)) (j := i * 2 + 1) (by rw [hcl]; omega)
      rw [← HAi.out, arc_set2, HAi.out] at e2
      obtain ⟨u1, c1⟩ : ∃ u, wr.cell? ⟨g, i * 2, none⟩ = some u := ⟨_, own_cellk hown (List.getElem?_eq_getElem (by rw [hcl]; omega))⟩
      have f1 := own_frozenk hown (i * 2)
      obtain ⟨u2, c2⟩ : ∃ u, (wr.setCell ⟨g, i * 2, none⟩ (.int .i64 (K : Int))).cell? ⟨g, i * 2 + 1, none⟩ = some u := ⟨_, own_cellk e1 (List.getElem?_eq_getElem (by rw [hcl]; omega))⟩
      have f2 := own_frozenk e1 (i * 2 + 1)
      have HE2 := hidd e2
      have HB2 : Hid (But (fun b => (Value.slice (some ⟨g, 0, none⟩) rs.length cap).ownBlock = some b) w ((wr.setCell ⟨g, i * 2, none⟩ (.int .i64 (K : Int))).setCell ⟨g, i * 2 + 1, none⟩ (.int .i64 ((K + 1 : Nat) : Int)))) := (HB.out.set g _ _ rfl).set g _ _ rfl
      have HM2 : Hid ((A ++ [((K : Int), ((K + 1 : Nat) : Int))]) ++ mkAr (K + 2) B.length = mkAr k rs.length) := by
        show _ = _
        rw [← HM.out, List.append_assoc]
        rfl
      obtain ⟨K1, hK1⟩ : ∃ K1 : Nat, K1 = K + 1 := ⟨_, rfl⟩
      obtain ⟨K2, hK2⟩ : ∃ K2 : Nat, K2 = K + 2 := ⟨_, rfl⟩
      rw [← hK1] at HE2 HB2 HM2
      rw [← hK2] at HM2
      have hkk : (K : Int) + 1 = (K1 : Int) := by omega
      have hkk2 : (K1 : Int) + 1 = (K2 : Int) := by omega
      have hKb : K ≤ 1099515822080 := by omega
      have hKb1 : K1 ≤ 1099515822080 := by omega
      have HKr : Hid (K2 = k + 2 * (i + 1)) := by show _ = _; omega
      clear hown e1 e2 HO HB HM hcl hK hK1 hK2
      go_wp2_with fail
      go_roundw
      case rel => exact ⟨A ++ [((K : Int), (K1 : Int))], B, i + 1, K2, by rw [List.length_append, HAi.out]; rfl, by omega, HKr.out, by go_num, rfl, HM2.out, by rw [List.append_assoc]; exact HE2.out, HB2.out⟩
      case measure => simp [intOf]; omega
section
variable {W W1 : World} {base g n cap : Nat} {v va : Value} {A B : List MSt} {f : Bool} {rs : List (Int × Int)} {e : Int}
theorem DfaM.setSt (h : DfaM W base (.slice (some ⟨g, 0, none⟩) n cap) (A ++ (va, f, rs, e) :: B)) (hn : n = (A ++ (va, f, rs, e) :: B).length) (j : Nat) (u : Value) (f' : Bool) (e' : Int) (hj : j < n * 3) (hs : (stCells (A ++ (va, f, rs, e) :: B)).set j u = stCells (A ++ (va, f', rs, e') :: B)) :
    DfaM (W.setCell ⟨g, j, none⟩ u) base (.slice (some ⟨g, 0, none⟩) n cap) (A ++ (va, f', rs, e') :: B) := by
  have hrow := h.row
  rw [← hn] at hrow
  obtain ⟨_, cur, hg⟩ := own_blk hrow (b := g) rfl
  have e1 := own_setG hrow u (j := j) (by rw [stCells_len, ← hn]; exact hj)
  rw [hs] at e1
  have hl : (A ++ (va, f', rs, e') :: B).length = n := by rw [hn]; simp
  have key : ∀ (y : Value) (m : Nat) (xs : List Value), W.ownsRow base 92 2 y m xs → (W.setCell ⟨g, j, none⟩ u).ownsRow base 92 2 y m xs := fun y m xs hy => own_congr hy (fun b hk => by
    obtain ⟨_, c2, h2⟩ := own_blk hy hk
    exact heap_set_other _ _ _ _ _ (blk_ne h2 hg (by decide)))
  refine ⟨by rw [hl]; exact e1, fun s hs2 => ?_, ?_⟩
  · rcases List.mem_append.1 hs2 with h1 | h1
    · exact key _ _ _ (h.arcs s (List.mem_append_left _ h1))
    · rcases List.mem_cons.1 h1 with rfl | h1
      · exact key _ _ _ (h.arcs (va, f, rs, e) (List.mem_append_right _ (List.mem_cons_self ..)))
      · exact key _ _ _ (h.arcs s (List.mem_append_right _ (List.mem_cons_of_mem _ h1)))
  · have hp := h.apart
    rw [List.pairwise_append, List.pairwise_cons] at hp ⊢
    obtain ⟨p1, ⟨p2, p3⟩, p4⟩ := hp
    refine ⟨p1, ⟨p2, p3⟩, fun a ha b hb => ?_⟩
    rcases List.mem_cons.1 hb with rfl | hb
    · exact p4 a ha (va, f, rs, e) (List.mem_cons_self ..)
    · exact p4 a ha b (List.mem_cons_of_mem _ hb)
theorem DfaM.setArcs {rs' : List (Int × Int)} (h : DfaM W base v (A ++ (va, f, rs, e) :: B)) (hb : But (fun b => va.ownBlock = some b) W W1) (ho : W1.ownsRow base 92 2 va rs'.length (arcCells rs')) : DfaM W1 base v (A ++ (va, f, rs', e) :: B) := by
  have hp := h.apart
  rw [List.pairwise_append, List.pairwise_cons] at hp
  obtain ⟨p1, ⟨p2, p3⟩, p4⟩ := hp
  have hva := h.arcs (va, f, rs, e) (List.mem_append_right _ (List.mem_cons_self ..))
  have key : ∀ (y : Value) (m : Nat) (xs : List Value), (∀ b, y.ownBlock = some b → va.ownBlock ≠ some b) → W.ownsRow base 92 2 y m xs → W1.ownsRow base 92 2 y m xs := fun y m xs hne hy => own_congr hy (fun b hk => hb.block b (Array.getElem?_eq_some_iff.1 (own_blk hy hk).2.choose_spec).1 (hne b hk))
  refine ⟨?_, fun s hs2 => ?_, ?_⟩
  · have hl : (A ++ (va, f, rs', e) :: B).length = (A ++ (va, f, rs, e) :: B).length := by simp
    have hc : stCells (A ++ (va, f, rs', e) :: B) = stCells (A ++ (va, f, rs, e) :: B) := by unfold stCells; rw [List.flatMap_append, List.flatMap_append]; rfl
    rw [hl, hc]
    refine own_congr h.row (fun b hk => hb.block b (Array.getElem?_eq_some_iff.1 (own_blk h.row hk).2.choose_spec).1 (fun e9 => ?_))
    obtain ⟨_, c1, h1⟩ := own_blk h.row hk
    obtain ⟨_, c2, h2⟩ := own_blk hva e9
    exact blk_ne h1 h2 (by decide) rfl
  · rcases List.mem_append.1 hs2 with h1 | h1
    · refine key _ _ _ (fun b hk e9 => ?_) (h.arcs s (List.mem_append_left _ h1))
      rcases p4 s h1 (va, f, rs, e) (List.mem_cons_self ..) with q | q
      · rw [q] at hk; cases hk
      · exact q (hk.trans e9.symm)
    · rcases List.mem_cons.1 h1 with rfl | h1
      · exact ho
      · refine key _ _ _ (fun b hk e9 => ?_) (h.arcs s (List.mem_append_right _ (List.mem_cons_of_mem _ h1)))
        rcases p2 s h1 with q | q
        · have q' : va.ownBlock = none := q
          rw [q'] at e9; cases e9
        · exact q (e9.trans hk.symm)
  · rw [List.pairwise_append, List.pairwise_cons]
    refine ⟨p1, ⟨p2, p3⟩, fun a ha b hb2 => ?_⟩
    rcases List.mem_cons.1 hb2 with rfl | hb2
    · exact p4 a ha (va, f, rs, e) (List.mem_cons_self ..)
    · exact p4 a ha b (List.mem_cons_of_mem _ hb2)
end
def OthD (w w' : World) : Prop := ∀ (b : Nat) (cs : Array Value) (t : TypeId), t ≠ 86 → t ≠ 92 → w.heap[b]? = some (.cells cs t) → w'.heap[b]? = some (.cells cs t)
theorem OthD.trans {a b c : World} (h : OthD a b) (k : OthD b c) : OthD a c := fun x cs t h1 h2 hh => k x cs t h1 h2 (h x cs t h1 h2 hh)
theorem OthD.setS {W : World} {g j : Nat} {cur : Array Value} (u : Value) (hg : W.heap[g]? = some (.cells cur 86)) : OthD W (W.setCell ⟨g, j, none⟩ u) := fun b cs t h1 h2 hh => by
  rw [heap_set_other _ _ _ _ _ (blk_ne hh hg h1)]; exact hh
set_option maxHeartbeats 4000000 in
theorem markStates_any (base : Nat) (v : Value) (l : List MSt) (k N : Nat) (w : World) (hN : N = mkK k l) (hn : l.length ≤ 256) (ha : ∀ s ∈ l, s.2.2.1.length ≤ 30) (hk : k ≤ 1000000) (hbase : base ≤ w.heap.size) (h : DfaM w base v l) :
    Calls Tryd.prog 27 #[v, .int .i64 (k : Int)] w fun e w' => e = .returned (.int .i64 (N : Int)) ∧ DfaM w' base v (mkS k l) ∧ Below base w w' ∧ OthD w w' := by
  obtain ⟨ad, cap, rfl⟩ := own_slk h.row
  have H := hidd h
  have HNN := hidd hN
  have HA := hidd ha
  clear h hN ha
  go_enter Tryd.func27, Tryd.ntmps27
  go_wp2_with fail
  go_loopw [5, 1] (fun iv kv wr => ∃ (A B : List MSt) (i K : Nat), A.length = i ∧ i + B.length = l.length ∧ (∀ s ∈ B, s.2.2.1.length ≤ 30) ∧ K + 62 * B.length ≤ k + 62 * l.length ∧ iv = .int .i64 (i : Int) ∧ kv = .int .i64 (K : Int) ∧ A ++ mkS K B = mkS k l ∧ mkK K B = mkK k l ∧ DfaM wr base (.slice ad l.length cap) (A ++ B) ∧ Below base w wr ∧ OthD w wr) (fun iv _ _ => l.length - (intOf iv).toNat)
  case atStart => exact ⟨[], l, 0, k, rfl, by simp, HA.out, by omega, rfl, rfl, rfl, rfl, H.out, Below.refl _ _, fun _ _ _ _ _ h => h⟩
  case round =>
    clear H HA
    obtain ⟨A, B, i, K, hAi, hAB, hsm, hKb, rfl, rfl, hmk, hmK, hM, hbel, hoth⟩ := hrel
    have HOt := hidd hoth
    have HMk := hidd hmk
    have HMK := hidd hmK
    have HM := hidd hM
    have HBe := hidd hbel
    have HAi := hidd hAi
    have HSm := hidd hsm
    clear hmk hmK hM hbel hAi hsm hoth
    cases B with
    | nil =>
      obtain rfl : i = l.length := by simpa using hAB
      have hltz : ¬ (l.length : Int) < (l.length : Int) := by omega
      go_wp2_with fail
      go_ret
      have e1 : A = mkS k l := by have := HMk.out; simpa [mkS] using this
      have e2 : K = N := by rw [HNN.out]; exact HMK.out
      refine ⟨by rw [e2]; rfl, ?_, HBe.out, HOt.out⟩
      rw [← e1]
      have := HM.out
      rw [List.append_nil] at this
      exact this
    | cons s B =>
      obtain ⟨va, f, rs, z⟩ := s
      rw [List.length_cons] at hAB hKb
      have hlt : i < l.length := by omega
      have hltz : (i : Int) < (l.length : Int) := by omega
      have hll : l.length = (A ++ (va, f, rs, z) :: B).length := by rw [List.length_append, List.length_cons, HAi.out]; omega
      have hrs : rs.length ≤ 30 := HSm.out (va, f, rs, z) (List.mem_cons_self ..)
      have hrow := HM.out.row
      rw [← hll] at hrow
      obtain ⟨g, cap', hg⟩ := own_posk hrow (by omega)
      simp only [Value.slice.injEq] at hg
      obtain ⟨rfl, -, rfl⟩ := hg
      have hgb := (own_blk hrow (b := g) rfl).1
      obtain ⟨q0, q1, q2⟩ := st_at (A ++ (va, f, rs, z) :: B) i (va, f, rs, z) (by rw [List.getElem?_append_right (by rw [HAi.out]; omega), HAi.out]; simp)
      have c0 : wr.cell? ⟨g, i * 3, none⟩ = some (.bool f) := own_cellk hrow q0
      have f0 := own_frozenk hrow (i * 3)
      have HM1 := hidd (HM.out.setSt hll (i * 3) (.bool ((K : Int) % 3 == 0)) ((K : Int) % 3 == 0) z (by omega) (by rw [← HAi.out]; exact st_set0 A B va f _ rs z))
      obtain ⟨K1, hK1⟩ : ∃ K1 : Nat, K1 = K + 1 := ⟨_, rfl⟩
      have hkk : (K : Int) + 1 = (K1 : Int) := by omega
      have hK1b : K1 ≤ 1099511627776 := by omega
      have hKb2 : K ≤ 1099511627776 := by omega
      obtain ⟨Bv, hBv⟩ : ∃ Bv, ((K : Int) % 3 == 0) = Bv := ⟨_, rfl⟩
      rw [hBv] at HM1
      have HBv := hidd hBv
      obtain ⟨N1, hN1⟩ : ∃ N1 : Nat, N1 = K1 + 2 * rs.length := ⟨_, rfl⟩
      obtain ⟨N2, hN2⟩ : ∃ N2 : Nat, N2 = N1 + 1 := ⟨_, rfl⟩
      have hnn : (N1 : Int) + 1 = (N2 : Int) := by omega
      have hN1b : N1 ≤ 1099511627776 := by omega
      have HB1 := hidd (HBe.out.setCell (p := ⟨g, i * 3, none⟩) hgb (.bool Bv))
      have harc : (wr.setCell ⟨g, i * 3, none⟩ (.bool Bv)).ownsRow base 92 2 va rs.length (arcCells rs) := HM1.out.arcs (va, Bv, rs, z) (List.mem_append_right _ (List.mem_cons_self ..))
      have c1 : (wr.setCell ⟨g, i * 3, none⟩ (.bool Bv)).cell? ⟨g, i * 3 + 1, none⟩ = some va := by
        have h1 := HM1.out.row
        rw [show (A ++ (va, Bv, rs, z) :: B).length = l.length by rw [hll]; simp] at h1
        exact own_cellk h1 (st_at (A ++ (va, Bv, rs, z) :: B) i (va, Bv, rs, z) (by rw [List.getElem?_append_right (by rw [HAi.out]; omega), HAi.out]; simp)).2.1
      have HMa := hidd (markArcs_any base va rs K1 N1 _ hN1 (by omega) hK1b harc)
      have hva := fun b hk => (own_blk harc (b := b) hk).1
      have HOa := hidd (HOt.out.trans (OthD.setS (j := i * 3) (.bool Bv) (own_blk hrow (b := g) rfl).2.choose_spec))
      have HVb := hidd (fun b hk => (own_blk harc (b := b) hk).2)
      obtain ⟨ada, ca, rfl⟩ := own_slk harc
      have HVa := hidd hva
      have HNr : Hid (K1 = K + 1 ∧ N1 = K + 1 + 2 * rs.length ∧ N2 = K + 2 + 2 * rs.length) := ⟨hK1, by omega, by omega⟩
      have hb62 : N2 + 62 * B.length ≤ k + 62 * l.length := by omega
      have HLL := hidd hll
      clear hrow q0 q1 q2 harc hva hK1 hN1 hN2 HM hll
      go_wp2_with fail
      refine HMa.out.mono ?_
      rintro e W2 ⟨rfl, ho2, hb2⟩
      have HM2 := hidd (HM1.out.setArcs (rs' := mkAr K1 rs.length) hb2 (by rw [mkAr_len]; exact ho2))
      have hll2 : l.length = (A ++ (.slice ada rs.length ca, Bv, mkAr K1 rs.length, z) :: B).length := by rw [HLL.out]; simp
      have hrow2 := HM2.out.row
      rw [← hll2] at hrow2
      have c2 : W2.cell? ⟨g, i * 3 + 2, none⟩ = some (.int .i64 z) := own_cellk hrow2 (st_at (A ++ (.slice ada rs.length ca, Bv, mkAr K1 rs.length, z) :: B) i (.slice ada rs.length ca, Bv, mkAr K1 rs.length, z) (by rw [List.getElem?_append_right (by rw [HAi.out]; omega), HAi.out]; simp)).2.2
      have f2 := own_frozenk hrow2 (i * 3 + 2)
      have HM3 := hidd (HM2.out.setSt hll2 (i * 3 + 2) (.int .i64 (N1 : Int)) Bv (N1 : Int) (by omega) (by rw [← HAi.out]; exact st_set2 A B _ Bv _ z _))
      have HB3 : Hid (Below base w (W2.setCell ⟨g, i * 3 + 2, none⟩ (.int .i64 (N1 : Int)))) := (HB1.out.trans (hb2.below (Nat.le_trans hbase HB1.out.size) (fun j hj e => by have := HVa.out j e; omega))).setCell (p := ⟨g, i * 3 + 2, none⟩) hgb _
      have HR : Hid ((A ++ [(.slice ada rs.length ca, Bv, mkAr K1 rs.length, (N1 : Int))]) ++ mkS N2 B = mkS k l ∧ mkK N2 B = mkK k l) := by
        obtain ⟨r1, r2, r3⟩ := HNr.out
        refine ⟨?_, ?_⟩
        · rw [← HMk.out, List.append_assoc, ← HBv.out, r1, r2, r3]; rfl
        · rw [← HMK.out, r3]; rfl
      have HOb : Hid (OthD w (W2.setCell ⟨g, i * 3 + 2, none⟩ (.int .i64 (N1 : Int)))) := (HOa.out.trans (fun b cs t h1 h2 hh => by
        rw [hb2.block b (Array.getElem?_eq_some_iff.1 hh).1 (fun hk => by
          obtain ⟨cur, h3⟩ := HVb.out b hk
          exact blk_ne hh h3 h2 rfl)]
        exact hh)).trans (OthD.setS _ (own_blk hrow2 (b := g) rfl).2.choose_spec)
      clear ho2 hb2 hrow2 HM2 HM1 HMa HB1 HBe c0 c1 f0 hll2 HMk HMK
      go_wp2_with fail
      go_roundw
      case rel => exact ⟨A ++ [(.slice ada rs.length ca, Bv, mkAr K1 rs.length, (N1 : Int))], B, i + 1, N2, by rw [List.length_append, HAi.out]; rfl, by omega, fun x hx => HSm.out x (List.mem_cons_of_mem _ hx), hb62, by go_num, rfl, HR.out.1, HR.out.2, by rw [List.append_assoc]; exact HM3.out, HB3.out, HOb.out⟩
      case measure => simp [intOf]; omega
end Go.Proofs.YtmnfioghhdgciaaDoor

namespace Go.Proofs.YtmnfioghhdgciaaDoor
open Go Go.RowKit
set_option linter.unusedVariables false
set_option linter.unusedSimpArgs false
set_option maxRecDepth 100000

/-! laws.heldDfa; laws.markDfa. -/
theorem mkAr_at : ∀ (n k i : Nat), i < n → (mkAr k n).getD i (0, 0) = (((k + 2 * i : Nat) : Int), ((k + 2 * i + 1 : Nat) : Int))
  | 0, k, i, h => absurd h (by omega)
  | n + 1, k, 0, h => by simp [mkAr]
  | n + 1, k, i + 1, h => by
    have := mkAr_at n (k + 2) i (by omega)
    rw [show k + 2 * (i + 1) = k + 2 + 2 * i by omega, ← this]
    simp [mkAr]
set_option maxHeartbeats 4000000 in
theorem heldArcs_any (a : Option Addr) (c n k N : Nat) (w : World) (hN : N = k + 2 * n) (hn : n ≤ 1048576) (hk : k ≤ 1099511627776) (h : HDA w a (mkAr k n)) :
    Calls Tryd.prog 46 #[.slice a n c, .int .i64 (k : Int)] w fun e w' => e = .returned (.int .i64 (N : Int)) ∧ Below w.heap.size w w' := by
  have H := hidd h
  have HNN := hidd hN
  clear h hN
  go_enter Tryd.func46, Tryd.ntmps46
  go_wp2_with fail
  go_loopw [5, 1] (fun iv kv wr => ∃ (i K : Nat), i ≤ n ∧ K = k + 2 * i ∧ iv = .int .i64 (i : Int) ∧ kv = .int .i64 (K : Int) ∧ Below w.heap.size w wr) (fun iv _ _ => n - (intOf iv).toNat)
  case atStart => exact ⟨0, k, Nat.zero_le _, by omega, rfl, rfl, Below.refl _ _⟩
  case round =>
    obtain ⟨i, K, hi, hK, rfl, rfl, hb⟩ := hrel
    have HB := hidd hb
    have HK := hidd hK
    clear hb
    by_cases hlt : i < n
    · have hltz : (i : Int) < (n : Int) := by omega
      obtain ⟨b, off, rfl, hb1, hc⟩ := (H.out.below HB.out).resolve_left (fun e => by have := congrArg List.length e; rw [mkAr_len] at this; simp at this; omega)
      have hc2 := hc i (by rw [mkAr_len]; exact hlt)
      rw [mkAr_at n k i hlt, ← hK] at hc2
      obtain ⟨x0, x1⟩ := hc2
      obtain ⟨K1, hK1⟩ : ∃ K1 : Nat, K1 = K + 1 := ⟨_, rfl⟩
      obtain ⟨K2, hK2⟩ : ∃ K2 : Nat, K2 = K + 2 := ⟨_, rfl⟩
      dsimp only at x0 x1
      rw [← hK1] at x1
      have hkk : (K : Int) + 1 = (K1 : Int) := by omega
      have hkk2 : (K1 : Int) + 1 = (K2 : Int) := by omega
      have hKb : K ≤ 1099515822080 := by omega
      have hKb1 : K1 ≤ 1099515822080 := by omega
      have HKr : Hid (K2 = k + 2 * (i + 1)) := by show _ = _; omega
      have n1 : ((K : Int) != (K : Int)) = false := by simp
      have n2 : ((K1 : Int) != (K1 : Int)) = false := by simp
      clear hc hK hK1 hK2
      go_wp2_with fail
      go_roundw
      case rel => exact ⟨i + 1, K2, by omega, HKr.out, by go_num, rfl, HB.out⟩
      case measure => simp [intOf]; omega
    · have hltz : ¬ (i : Int) < (n : Int) := by omega
      obtain rfl : i = n := by omega
      clear hK
      go_wp2_with fail
      go_ret
      exact ⟨by rw [HNN.out, ← HK.out]; rfl, HB.out⟩
theorem mk_split {l : List MSt} {k i : Nat} {A : List MSt} {K : Nat} {s : MSt} {B : List MSt} (h : A ++ mkS K (s :: B) = mkS k l) (hA : A.length = i) : ((mkS k l).map Prod.snd).getD i ps0 = (((K : Int) % 3 == 0), mkAr (K + 1) s.2.2.1.length, ((K + 1 + 2 * s.2.2.1.length : Nat) : Int)) := by
  rw [← h, List.getD_eq_getElem?_getD, List.getElem?_map, List.getElem?_append_right (by omega), hA, Nat.sub_self]
  rfl
set_option maxHeartbeats 4000000 in
theorem heldStates_any (a : Option Addr) (c k N : Nat) (l : List MSt) (w : World) (hN : N = mkK k l) (hn : l.length ≤ 256) (ha : ∀ s ∈ l, s.2.2.1.length ≤ 30) (hk : k ≤ 1000000) (h : HDS w a ((mkS k l).map Prod.snd)) :
    Calls Tryd.prog 28 #[.slice a l.length c, .int .i64 (k : Int)] w fun e w' => e = .returned (.int .i64 (N : Int)) ∧ Below w.heap.size w w' := by
  have H := hidd h
  have HNN := hidd hN
  have HA := hidd ha
  clear h hN ha
  go_enter Tryd.func28, Tryd.ntmps28
  go_wp2_with fail
  go_loopw [5, 1] (fun iv kv wr => ∃ (A B : List MSt) (i K : Nat), A.length = i ∧ i + B.length = l.length ∧ (∀ s ∈ B, s.2.2.1.length ≤ 30) ∧ K + 62 * B.length ≤ k + 62 * l.length ∧ iv = .int .i64 (i : Int) ∧ kv = .int .i64 (K : Int) ∧ A ++ mkS K B = mkS k l ∧ mkK K B = mkK k l ∧ Below w.heap.size w wr) (fun iv _ _ => l.length - (intOf iv).toNat)
  case atStart => exact ⟨[], l, 0, k, rfl, by simp, HA.out, by omega, rfl, rfl, rfl, rfl, Below.refl _ _⟩
  case round =>
    clear HA
    obtain ⟨A, B, i, K, hAi, hAB, hsm, hKb, rfl, rfl, hmk, hmK, hbel⟩ := hrel
    have HMk := hidd hmk
    have HMK := hidd hmK
    have HBe := hidd hbel
    have HAi := hidd hAi
    have HSm := hidd hsm
    clear hmk hmK hbel hAi hsm
    cases B with
    | nil =>
      obtain rfl : i = l.length := by simpa using hAB
      have hltz : ¬ (l.length : Int) < (l.length : Int) := by omega
      go_wp2_with fail
      go_ret
      have e2 : K = N := by rw [HNN.out]; exact HMK.out
      exact ⟨by rw [e2]; rfl, HBe.out⟩
    | cons s B =>
      obtain ⟨va, f, rs, z⟩ := s
      rw [List.length_cons] at hAB hKb
      have hlt : i < l.length := by omega
      have hltz : (i : Int) < (l.length : Int) := by omega
      have hrs : rs.length ≤ 30 := HSm.out (va, f, rs, z) (List.mem_cons_self ..)
      obtain ⟨b, off, rfl, hb1, hc⟩ := (H.out.below HBe.out).resolve_left (fun e => by have := congrArg List.length e; rw [List.length_map, mkS_len, List.length_nil] at this; omega)
      have hc2 := hc i (by rw [List.length_map, mkS_len]; exact hlt)
      rw [mk_split HMk.out HAi.out] at hc2
      obtain ⟨x0, ai, ci, x1, hx, x2⟩ := hc2
      dsimp only at x0 x1 hx x2
      rw [mkAr_len] at x1
      obtain ⟨m, hm⟩ : ∃ m, rs.length = m := ⟨_, rfl⟩
      rw [hm] at x1 hx x2 hrs
      obtain ⟨K1, hK1⟩ : ∃ K1 : Nat, K1 = K + 1 := ⟨_, rfl⟩
      obtain ⟨N1, hN1⟩ : ∃ N1 : Nat, N1 = K1 + 2 * m := ⟨_, rfl⟩
      obtain ⟨N2, hN2⟩ : ∃ N2 : Nat, N2 = N1 + 1 := ⟨_, rfl⟩
      rw [← hK1] at hx x2
      rw [← hN1] at x2
      have hkk : (K : Int) + 1 = (K1 : Int) := by omega
      have hnn : (N1 : Int) + 1 = (N2 : Int) := by omega
      have hK1b : K1 ≤ 1099511627776 := by omega
      have hKb2 : K ≤ 1099511627776 := by omega
      have hN1b : N1 ≤ 1099511627776 := by omega
      have hN1p : ¬ (N1 : Int) < 0 := by omega
      have dN1 : decide ((N1 : Int) < 0) = false := decide_eq_false hN1p
      have n1 : ((N1 : Int) != (N1 : Int)) = false := by simp
      obtain ⟨Bv, hBv⟩ : ∃ Bv, ((K : Int) % 3 == 0) = Bv := ⟨_, rfl⟩
      rw [hBv] at x0
      have hbb : (Bv != Bv) = false := by cases Bv <;> rfl
      have HHd := hidd (heldArcs_any ai ci m K1 N1 wr hN1 (by omega) hK1b hx)
      have HR : Hid ((A ++ [(va, Bv, mkAr K1 m, (N1 : Int))]) ++ mkS N2 B = mkS k l ∧ mkK N2 B = mkK k l) := by
        have r3 : N2 = K + 2 + 2 * rs.length := by omega
        have r2 : N1 = K + 1 + 2 * rs.length := by omega
        refine ⟨?_, ?_⟩
        · rw [← HMk.out, List.append_assoc, ← hBv, hK1, r2, r3, ← hm]; rfl
        · rw [← HMK.out, r3]; rfl
      have hb62 : N2 + 62 * B.length ≤ k + 62 * l.length := by omega
      have y2 : Hid (b < wr.heap.size ∧ wr.cell? ⟨b, off + i * 3 + 2, none⟩ = some (.int .i64 (N1 : Int))) := ⟨hb1, x2⟩
      clear hc hx hK1 hN1 hN2 hm x2 HMk HMK
      go_wp2_with fail
      refine HHd.out.mono ?_
      rintro e W2 ⟨rfl, hb2⟩
      have x2' : W2.cell? ⟨b, off + i * 3 + 2, none⟩ = some (.int .i64 (N1 : Int)) := (hb2.cell (p := ⟨b, off + i * 3 + 2, none⟩) y2.out.1).trans y2.out.2
      have HB2 := hidd (HBe.out.trans (hb2.mono HBe.out.size))
      clear hb2 x0 x1 HHd
      go_wp2_with fail
      go_roundw
      case rel => exact ⟨A ++ [(va, Bv, mkAr K1 m, (N1 : Int))], B, i + 1, N2, by rw [List.length_append, HAi.out]; rfl, by omega, fun x hx => HSm.out x (List.mem_cons_of_mem _ hx), hb62, by go_num, rfl, HR.out.1, HR.out.2, HB2.out⟩
      case measure => simp [intOf]; omega
theorem heldDfa_any (a : Option Addr) (c N : Nat) (l : List MSt) (w : World) (hN : N = mkK 1 l) (hn : l.length ≤ 256) (ha : ∀ s ∈ l, s.2.2.1.length ≤ 30) (h : HDS w a ((mkS 1 l).map Prod.snd)) :
    Calls Tryd.prog 8 #[.agg #[.slice a l.length c], .int .i64 1] w fun e w' => e = .returned (.int .i64 (N : Int)) ∧ Below w.heap.size w w' := by
  have hb0 : Below w.heap.size w (w.alloc (.cells #[.slice a l.length c] 24)) := (Below.refl _ _).alloc (Nat.le_refl _) _
  have HC := hidd (heldStates_any a c 1 N l _ hN hn ha (by omega) (h.below hb0))
  have HB := hidd hb0
  have hNp : ¬ (N : Int) < 0 := by omega
  have dN : decide ((N : Int) < 0) = false := decide_eq_false hNp
  clear hN ha h hb0
  go_enter Tryd.func8, Tryd.ntmps8
  go_wp2_with fail
  refine HC.out.mono ?_
  rintro e w2 ⟨rfl, hb2⟩
  have HB2 := hidd (HB.out.trans (hb2.mono HB.out.size))
  clear hb2
  go_wp2_with fail
  go_ret
  exact ⟨rfl, HB2.out⟩
theorem markDfa_any (base N : Nat) (v : Value) (l : List MSt) (w : World) (hN : N = mkK 1 l) (hn : l.length ≤ 256) (ha : ∀ s ∈ l, s.2.2.1.length ≤ 30) (hbase : base ≤ w.heap.size) (h : DfaM w base v l) :
    Calls Tryd.prog 7 #[.agg #[v], .int .i64 1] w fun e w' => e = .returned (.int .i64 (N : Int)) ∧ DfaM w' base v (mkS 1 l) ∧ Below base w w' ∧ OthD w w' := by
  obtain ⟨ad, cap, rfl⟩ := own_slk h.row
  have hb0 : Below w.heap.size w (w.alloc (.cells #[.slice ad l.length cap] 24)) := (Below.refl _ _).alloc (Nat.le_refl _) _
  have HC := hidd (markStates_any base _ l 1 N _ hN hn ha (by omega) (Nat.le_trans hbase hb0.size) (h.below hb0))
  have HB := hidd (hb0.mono hbase)
  have HO0 : Hid (OthD w (w.alloc (.cells #[.slice ad l.length cap] 24))) := fun b cs t _ _ hh => blko hh hb0
  clear hN ha h hb0
  go_enter Tryd.func7, Tryd.ntmps7
  go_wp2_with fail
  refine HC.out.mono ?_
  rintro e w2 ⟨rfl, h2, hb2, ho2⟩
  have HB2 := hidd (HB.out.trans hb2)
  have HO2 := hidd (HO0.out.trans ho2)
  have H2 := hidd h2
  clear hb2 h2 ho2
  go_wp2_with fail
  go_ret
  exact ⟨rfl, H2.out, HB2.out, HO2.out⟩
end Go.Proofs.YtmnfioghhdgciaaDoor
