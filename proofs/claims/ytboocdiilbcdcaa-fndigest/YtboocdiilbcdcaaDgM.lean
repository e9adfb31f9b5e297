import Derived.Test.YtboocdiilbcdcaaDgAd
import Derived.Maps.AppendAt
namespace Go.Proofs.Ytboocdiilbcdcaa
open Go Go.RowKit
set_option linter.unusedVariables false
set_option linter.unusedSimpArgs false
set_option maxRecDepth 100000

/-! Sorted lists of numbers, slices of them, and rows that grow. -/
def srtZ (zs : List Int) : List Int := zs.mergeSort fun x y => decide (x ≤ y)
theorem srtZ_len (zs : List Int) : (srtZ zs).length = zs.length := List.length_mergeSort _
def UpZ (zs : List Int) : Prop := zs.Pairwise fun x y => x ≤ y
theorem srtZ_up (zs : List Int) : UpZ (srtZ zs) := by
  have h := List.pairwise_mergeSort (le := fun x y : Int => decide (x ≤ y)) (fun a b c h1 h2 => by simp at *; omega) (fun a b => by simp; omega) zs
  exact h.imp (fun h => of_decide_eq_true h)
theorem srtZ_perm (zs : List Int) : (srtZ zs).Perm zs := List.mergeSort_perm _ _
theorem up_uniq {a b : List Int} (ha : UpZ a) (hb : UpZ b) (hp : a.Perm b) : a = b :=
  List.Perm.eq_of_pairwise (le := fun x y : Int => x ≤ y) (fun x y _ _ h1 h2 => by omega) ha hb hp
theorem srtZ_of {a zs : List Int} (ha : UpZ a) (hp : a.Perm zs) : srtZ zs = a := up_uniq (srtZ_up zs) ha ((srtZ_perm zs).trans hp.symm)
/-- What a merge of two rising lists has. -/
structure Mgz (L A B O : List Int) : Prop where
  ua : UpZ A
  ub : UpZ B
  uo : UpZ O
  lo : ∀ x ∈ O, (∀ y ∈ A, x ≤ y) ∧ (∀ y ∈ B, x ≤ y)
  pm : (O ++ (A ++ B)).Perm L
theorem Mgz.swap {L A B O : List Int} (h : Mgz L A B O) : Mgz L B A O :=
  ⟨h.ub, h.ua, h.uo, fun x hx => ⟨(h.lo x hx).2, (h.lo x hx).1⟩, (List.Perm.append_left O List.perm_append_comm).trans h.pm⟩
theorem Mgz.take {L A B O : List Int} {x : Int} (h : Mgz L (x :: A) B O) (hb : ∀ y, B.head? = some y → x ≤ y) : Mgz L A B (O ++ [x]) := by
  have hxB : ∀ y ∈ B, x ≤ y := by
    intro y hy
    cases B with
    | nil => cases hy
    | cons b0 B =>
      have h0 := hb b0 rfl
      rcases List.mem_cons.1 hy with rfl | hy
      · exact h0
      · have := (List.pairwise_cons.1 h.ub).1 y hy; omega
  have hxA := (List.pairwise_cons.1 h.ua).1
  refine ⟨(List.pairwise_cons.1 h.ua).2, h.ub, ?_, ?_, ?_⟩
  · refine List.pairwise_append.2 ⟨h.uo, List.pairwise_singleton _ _, fun a ha b hb => ?_⟩
    rw [List.mem_singleton.1 hb]
    exact (h.lo a ha).1 x (by simp)
  · intro a ha
    rcases List.mem_append.1 ha with ha | ha
    · exact ⟨fun y hy => (h.lo a ha).1 y (by simp [hy]), (h.lo a ha).2⟩
    · rw [List.mem_singleton.1 ha]; exact ⟨hxA, hxB⟩
  · have := h.pm
    simpa using this
theorem Mgz.start {A B : List Int} (ha : UpZ A) (hb : UpZ B) : Mgz (A ++ B) A B [] := ⟨ha, hb, List.Pairwise.nil, (fun x hx => by cases hx), by simp⟩
theorem Mgz.done {L A B O : List Int} (h : Mgz L A B O) (he : A = [] ∨ B = []) : O ++ (A ++ B) = srtZ L := by
  refine (srtZ_of ?_ h.pm).symm
  refine List.pairwise_append.2 ⟨h.uo, ?_, fun a ha b hb => ?_⟩
  · rcases he with rfl | rfl
    · rw [List.nil_append]; exact h.ub
    · rw [List.append_nil]; exact h.ua
  · rcases List.mem_append.1 hb with hb | hb
    · exact (h.lo a ha).1 b hb
    · exact (h.lo a ha).2 b hb
theorem Mgz.len {L A B O : List Int} (h : Mgz L A B O) : O.length + (A.length + B.length) = L.length := by
  have := h.pm.length_eq
  simpa using this
theorem pts_up {zs : List Int} (h : PtS zs) : UpZ zs := by
  have key : ∀ (d a : Nat), a + d < zs.length → zs.getD a 0 ≤ zs.getD (a + d) 0 := by
    intro d
    induction d with
    | zero => intro a _; simp
    | succ d ih =>
      intro a ha
      have h1 := ih a (by omega)
      have h2 := h (a + d) (by omega)
      have e : a + (d + 1) = a + d + 1 := by omega
      rw [e]; omega
  refine List.pairwise_iff_getElem.2 fun i j hi hj hij => ?_
  have := key (j - i) i (by omega)
  rw [show i + (j - i) = j by omega] at this
  simpa [List.getD_eq_getElem?_getD, hi, hj] using this
/-- A slice of numbers that may be cut. -/
def SzI (w : World) (v : Value) (zs : List Int) : Prop :=
  ∃ ad cap, v = .slice ad zs.length cap ∧ zs.length ≤ cap ∧ (zs = [] ∨ ∃ g off, ad = some ⟨g, off, none⟩ ∧ g < w.heap.size ∧ ∀ t, t < zs.length → w.cell? ⟨g, off + t, none⟩ = some (.int .i64 (zs.getD t 0)))
theorem own_cap {w : World} {base e g n c : Nat} {xs : List Value} (h : w.ownsRow base e 1 (.slice (some ⟨g, 0, none⟩) n c) n xs) : n ≤ c := by
  rcases h.2 with ⟨h', _⟩ | ⟨g', c', cur, h1, h2, h3, h4, _⟩
  · cases h'
  · simp only [Value.slice.injEq, Option.some.injEq, Addr.mk.injEq, and_true, true_and] at h1
    obtain ⟨rfl, rfl⟩ := h1
    exact h4
theorem SzI.own {w : World} {base : Nat} {v : Value} {zs : List Int} (h : w.ownsRow base 3 1 v zs.length (zI zs)) : SzI w v zs := by
  rcases own_cases h with ⟨rfl, h0⟩ | ⟨g, cap, rfl, _, hg⟩
  · exact ⟨none, 0, by rw [h0], by omega, Or.inl (List.length_eq_zero_iff.1 h0)⟩
  · exact ⟨_, cap, rfl, own_cap h, Or.inr ⟨g, 0, rfl, hg, own_cells h rfl⟩⟩
theorem SzI.hold {w : World} {v : Value} {zs : List Int} (h : SzI w v zs) : HoldI w v zs := by
  obtain ⟨ad, cap, e, _, h⟩ := h
  exact ⟨ad, cap, e, h⟩
theorem SzI.below {w w' : World} {v : Value} {zs : List Int} (h : SzI w v zs) (hb : Below w.heap.size w w') : SzI w' v zs := by
  obtain ⟨ad, cap, rfl, h0, h | ⟨g, off, rfl, hg, hc⟩⟩ := h
  · exact ⟨ad, cap, rfl, h0, Or.inl h⟩
  · exact ⟨_, cap, rfl, h0, Or.inr ⟨g, off, rfl, Nat.lt_of_lt_of_le hg hb.size, fun t ht => (hb.cell (p := ⟨g, off + t, none⟩) hg).trans (hc t ht)⟩⟩
section
variable {ops : Array Oper} {rest : List Oper} {o : Oper} {a : Act} {w : World} {Q : Exit → Act → World → Prop}
set_option maxRecDepth 1000000 in
theorem wpSz_from {w0 : World} (hgd : o.guard = none) (x y : Operand) (ho : o.op = .slice 23 x (some y) none none) (v : Value) (zs : List Int) (n : Nat) (hx : a.eval x = v) (hy : a.eval y = .int .i64 (n : Int)) (hst : SzI w0 v zs) (hs : n ≤ zs.length) (hs1 : 1 ≤ n) (hl : zs.length ≤ 1048576)
    (h : ∀ v', SzI w0 v' (zs.drop n) → wpList Try.prog ops Q rest (a.put o.dst v') w) : wpList Try.prog ops Q (o :: rest) a w := by
  obtain ⟨s, cap, rfl, hcap, hT⟩ := hst
  obtain ⟨g, off, rfl, hgl, hc⟩ := hT.resolve_left (fun e => by rw [e] at hs; simp at hs; omega)
  have hr := run_slice_l (P := Try.prog) w 23 (some ⟨g, off, none⟩) zs.length cap Try.underlying23 .i64 (n : Int) (by omega) (by omega)
  have hsz : (sizeOf (Try.prog.elem 23)).run Try.prog w = .ok 1 w := Try.sizeOf3 w
  rw [hsz] at hr
  simp only [Result.andThen_ok, Int.toNat_natCast, sliced, Nat.mul_one] at hr
  have hrr := run_sliceAt_slice (P := Try.prog) w 23 (.slice (some ⟨g, off, none⟩) zs.length cap) (some (.int .i64 (n : Int))) none none Try.underlying23
  refine wpList_plain hgd fun K hK => ?_
  unfold Oper.wp execOp
  simp only [ho, Option.map_some, Option.map_none, hx, hy, Sem.run_bind, Sem.run_pure, Result.andThen_ok, hrr, hr]
  refine hK _ _ (h _ ?_)
  by_cases hcs : cap = n
  · have hdr : zs.drop n = [] := List.drop_eq_nil_iff.2 (by omega)
    rw [if_pos hcs]
    have : zs.length - n = 0 := by omega
    rw [this, hdr]
    exact ⟨_, _, rfl, by simp, .inl rfl⟩
  · rw [if_neg hcs]
    refine ⟨some ⟨g, off + n, none⟩, cap - n, ?_, by rw [List.length_drop]; omega, Or.inr ⟨g, off + n, rfl, hgl, fun t ht => ?_⟩⟩
    · rw [List.length_drop]
      simp [Addr.add]
      try omega
    · rw [List.length_drop] at ht
      rw [Nat.add_assoc, hc (n + t) (by omega), List.getD_eq_getElem?_getD, List.getD_eq_getElem?_getD, List.getElem?_drop]
set_option maxRecDepth 1000000 in
theorem wpSz_to {w0 : World} (hgd : o.guard = none) (x y : Operand) (ho : o.op = .slice 23 x none (some y) none) (v : Value) (zs : List Int) (n : Nat) (hx : a.eval x = v) (hy : a.eval y = .int .i64 (n : Int)) (hst : SzI w0 v zs) (hs : n ≤ zs.length) (hl : zs.length ≤ 1048576)
    (h : ∀ v', SzI w0 v' (zs.take n) → wpList Try.prog ops Q rest (a.put o.dst v') w) : wpList Try.prog ops Q (o :: rest) a w := by
  obtain ⟨s, cap, rfl, hcap, hT⟩ := hst
  have hr := run_slice_h (P := Try.prog) w 23 s zs.length cap Try.underlying23 .i64 (n : Int) (by omega) (by omega)
  have hsz : (sizeOf (Try.prog.elem 23)).run Try.prog w = .ok 1 w := Try.sizeOf3 w
  rw [hsz] at hr
  simp only [Result.andThen_ok, Int.toNat_natCast, sliced, Nat.mul_one] at hr
  have hrr := run_sliceAt_slice (P := Try.prog) w 23 (.slice s zs.length cap) none (some (.int .i64 (n : Int))) none Try.underlying23
  refine wpList_plain hgd fun K hK => ?_
  unfold Oper.wp execOp
  simp only [ho, Option.map_some, Option.map_none, hx, hy, Sem.run_bind, Sem.run_pure, Result.andThen_ok, hrr, hr]
  refine hK _ _ (h _ ?_)
  have htl : (zs.take n).length = n := by rw [List.length_take]; omega
  refine ⟨s, cap, ?_, by omega, ?_⟩
  · rw [htl]
    rcases s with _ | s
    · simp
    · simp [Addr.add]
  · rcases hT with h0 | ⟨g, off, h1, h2, h3⟩
    · exact Or.inl (by rw [h0]; simp)
    · refine Or.inr ⟨g, off, h1, h2, fun t ht => ?_⟩
      rw [htl] at ht
      rw [h3 t (by omega), List.getD_eq_getElem?_getD, List.getD_eq_getElem?_getD, List.getElem?_take, if_pos (by omega)]
/-- A row that grows by a slice, perhaps an empty one. -/
theorem wpSz_app (hgd : o.guard = none) (s x : Operand) (ho : o.op = .call { callee := .builtin .append, args := #[s, x], argTypes := #[23, 23] })
    (base g c : Nat) (xs : List Int) (hs : a.eval s = .slice (some ⟨g, 0, none⟩) xs.length c) (hown : w.ownsRow base 3 1 (.slice (some ⟨g, 0, none⟩) xs.length c) xs.length (zI xs))
    (v2 : Value) (zs : List Int) (hx : a.eval x = v2) (hrow : SzI w v2 zs) (hnm : xs.length + zs.length ≤ 1048576) (hbase : base ≤ w.heap.size)
    (h : ∀ g' c' w', w'.ownsRow base 3 1 (.slice (some ⟨g', 0, none⟩) (xs ++ zs).length c') (xs ++ zs).length (zI (xs ++ zs)) → w.grownBy w' (some g) → (g' = g ∨ w.heap.size ≤ g') → wpList Try.prog ops Q rest (a.put o.dst (.slice (some ⟨g', 0, none⟩) (xs ++ zs).length c')) w') :
    wpList Try.prog ops Q (o :: rest) a w := by
  obtain ⟨i0, hi0, hz0, hz1, hz2⟩ := info_parts Try.infoIntL
  obtain ⟨ad, cap, rfl, hcap, hT⟩ := hrow
  rcases hT with rfl | ⟨g2, off, rfl, hg2, hc2⟩
  · have hh := h g c w (by rw [List.append_nil]; exact hown) (grown_refl _ _) (Or.inl rfl)
    rw [List.append_nil] at hh
    rcases ad with _ | ad
    · refine wpList_plain hgd fun K hK => ?_
      have hr : (Builtin.append_ #[23, 23] o.type #[.slice (some ⟨g, 0, none⟩) xs.length c, .slice none 0 cap]).run Try.prog w = .ok (.slice (some ⟨g, 0, none⟩) xs.length c) w := by
        have hcx := own_cap hown
        simp [Builtin.append_, run_underlying Try.underlying23, sizeOf, typeInfo, hi0, Builtin.lenOf, Builtin.firstCells, loadCells, loadCellsFrom, storeCells, hcx]
      unfold Oper.wp execOp
      simp only [ho, resolve, invoke, builtin, Sem.run_bind, Sem.run_pure, Result.andThen_ok, List.map_toArray, List.map_cons, List.map_nil, hs, hx, List.length_nil, hr]
      exact hK _ _ hh
    · refine wpList_append_own_at w hgd s x 23 ho base 3 i0 (.int .i64 0) 1 8 Try.underlying23 hi0 hz0 hz1 hz2 rfl (by decide) _ xs.length (zI xs) hs hown ad 0 cap [] hx rfl (fun j u hj => by simp at hj) (fun u hu => by cases hu) (by unfold maxLen; omega) (by omega) hbase ?_
      intro v' w' h2 h3 h4 h5
      rcases h2.2 with ⟨h', _⟩ | ⟨g', cap', cur', h', _⟩
      · exact absurd (h4.1 h').1 (by simp)
      · subst h'
        rw [List.append_nil, Nat.add_zero] at h2
        have hq := h g' cap' w' (by rw [List.append_nil]; exact h2) h3 (by
          rcases h5 with h5 | h5
          · exact Or.inl (by simpa [Value.ownBlock] using h5)
          · exact Or.inr (by have : g' = w.heap.size := by simpa [Value.ownBlock] using h5
                             omega))
        rw [List.append_nil] at hq
        exact hq
  · refine wpList_append_own_at w hgd s x 23 ho base 3 i0 (.int .i64 0) 1 8 Try.underlying23 hi0 hz0 hz1 hz2 rfl (by decide) _ xs.length (zI xs) hs hown ⟨g2, off, none⟩ zs.length cap (zI zs) hx (by rw [zI_len, Nat.mul_one]) ?_ ?_ (by unfold maxLen; omega) (by omega) hbase ?_
    · intro j u hj
      have hjl : j < zs.length := by have := (List.getElem?_eq_some_iff.1 hj).1; rwa [zI_len] at this
      rw [show (⟨g2, off, none⟩ : Addr).add j = ⟨g2, off + j, none⟩ from by simp only [Addr.add]; split <;> simp_all]
      rw [hc2 j hjl]
      rw [← hj]
      simp [zI, List.getD_eq_getElem?_getD, List.getElem?_eq_getElem hjl]
    · intro u hu
      simp only [zI, List.mem_map] at hu
      obtain ⟨x, _, rfl⟩ := hu
      rfl
    · intro v' w' h2 h3 h4 h5
      rcases h2.2 with ⟨h', _⟩ | ⟨g', cap', cur', h', _⟩
      · exact absurd (h4.1 h').1 (by simp)
      · subst h'
        rw [← zI_app, ← List.length_append] at h2
        have hq := h g' cap' w' h2 h3 (by
          rcases h5 with h5 | h5
          · exact Or.inl (by simpa [Value.ownBlock] using h5)
          · exact Or.inr (by have : g' = w.heap.size := by simpa [Value.ownBlock] using h5
                             omega))
        rw [List.length_append] at hq
        exact hq
end
end Go.Proofs.Ytboocdiilbcdcaa
