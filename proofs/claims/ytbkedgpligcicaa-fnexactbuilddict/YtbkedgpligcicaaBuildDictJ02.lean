import Derived.Test.YtbkedgpligcicaaBuildDictJ01
import Derived.Deep.RegionWith
import Derived.Handy
import Derived.Deep.CutBlock
namespace Go.Proofs.Ytbkedgpligcicaa
open Go
set_option linter.unusedVariables false

/-! The stretches of rising texts that begin alike, from the end on. -/
def lblT (T : List Tx) (j : Nat) : Nat := ((T.getD j []).headD 0).toNat
def gsT (T : List Tx) (x : Nat) : Nat → Nat
  | 0 => 0
  | s + 1 => if lblT T s = x then gsT T x s else s + 1
theorem gsT_le (T : List Tx) (x : Nat) : ∀ e, gsT T x e ≤ e
  | 0 => Nat.le_refl _
  | e + 1 => by
    unfold gsT
    split
    · exact Nat.le_succ_of_le (gsT_le T x e)
    · exact Nat.le_refl _
theorem gsT_all (T : List Tx) (x : Nat) : ∀ e j, gsT T x e ≤ j → j < e → lblT T j = x
  | 0, j, _, h => absurd h (by omega)
  | e + 1, j, h1, h2 => by
    unfold gsT at h1
    split at h1
    · rename_i hx
      by_cases hj : j = e
      · subst hj; exact hx
      · exact gsT_all T x e j h1 (by omega)
    · omega
theorem gsT_stop (T : List Tx) (x : Nat) : ∀ e, gsT T x e = 0 ∨ lblT T (gsT T x e - 1) ≠ x
  | 0 => Or.inl rfl
  | e + 1 => by
    unfold gsT
    split
    · exact gsT_stop T x e
    · rename_i hx; exact Or.inr (by simpa using hx)
theorem gsT_lt (T : List Tx) {e : Nat} (he : 0 < e) : gsT T (lblT T (e - 1)) e < e := by
  obtain ⟨k, rfl⟩ : ∃ k, e = k + 1 := ⟨e - 1, by omega⟩
  simp only [Nat.add_sub_cancel]
  unfold gsT
  rw [if_pos rfl]
  have := gsT_le T (lblT T k) k
  omega
def FullT (T : List Tx) : Prop := ∀ t ∈ T, t ≠ []
theorem getD_mem {T : List Tx} {j : Nat} (h : j < T.length) : T.getD j [] ∈ T := by
  rw [List.getD_eq_getElem?_getD, List.getElem?_eq_getElem h]; exact List.getElem_mem _
theorem lbl_lt {T : List Tx} (hr : RiseT T) (hf : FullT T) {i j : Nat} (hij : i ≤ j) (hj : j < T.length) : lblT T i ≤ lblT T j := by
  by_cases e : i = j
  · subst e; exact Nat.le_refl _
  · have h1 : ltT (T.getD i []) (T.getD j []) = true := by
      have := List.pairwise_iff_getElem.1 hr i j (by omega) hj (by omega)
      simpa [List.getD_eq_getElem?_getD, (by omega : i < T.length), hj] using this
    have h2 := hf _ (getD_mem (by omega : i < T.length))
    have h3 := hf _ (getD_mem hj)
    unfold lblT
    cases ha : T.getD i [] with
    | nil => exact absurd ha h2
    | cons a s =>
      cases hb : T.getD j [] with
      | nil => exact absurd hb h3
      | cons b t =>
        rw [ha, hb, ltT_cons] at h1
        simp only [List.headD_cons]
        rcases h1 with h1 | ⟨h1, _⟩
        · omega
        · rw [h1]; exact Nat.le_refl _
/-- Where one may stand between two stretches. -/
def CutT (T : List Tx) (e : Nat) : Prop := e = 0 ∨ e = T.length ∨ lblT T (e - 1) ≠ lblT T e
theorem gsT_cut {T : List Tx} {e : Nat} (he : 0 < e) : CutT T (gsT T (lblT T (e - 1)) e) := by
  have h1 := gsT_lt T he
  rcases gsT_stop T (lblT T (e - 1)) e with h | h
  · exact Or.inl h
  · refine Or.inr (Or.inr ?_)
    have h2 := gsT_all T (lblT T (e - 1)) e (gsT T (lblT T (e - 1)) e) (Nat.le_refl _) h1
    rw [h2]
    exact h
theorem sorted_ext : ∀ {A B : List Nat}, A.Pairwise (· < ·) → B.Pairwise (· < ·) → (∀ t, t ∈ A ↔ t ∈ B) → A = B
  | [], [], _, _, _ => rfl
  | [], b :: B, _, _, h => by have := (h b).2 (by simp); simp at this
  | a :: A, [], _, _, h => by have := (h a).1 (by simp); simp at this
  | a :: A, b :: B, ha, hb, h => by
    rw [List.pairwise_cons] at ha hb
    have e : a = b := by
      have h1 := (h a).1 (by simp)
      have h2 := (h b).2 (by simp)
      rcases List.mem_cons.1 h1 with h1 | h1
      · exact h1
      · rcases List.mem_cons.1 h2 with h2 | h2
        · exact h2.symm
        · have := hb.1 a h1
          have := ha.1 b h2
          omega
    subst e
    congr 1
    refine sorted_ext ha.2 hb.2 fun t => ?_
    constructor
    · intro ht
      rcases List.mem_cons.1 ((h t).1 (by simp [ht])) with rfl | h'
      · have := ha.1 t ht; omega
      · exact h'
    · intro ht
      rcases List.mem_cons.1 ((h t).2 (by simp [ht])) with rfl | h'
      · have := hb.1 t ht; omega
      · exact h'
theorem drop_mem_lbl {T : List Tx} {e : Nat} {t : Tx} (h : t ∈ T.drop e) : ∃ j, e ≤ j ∧ j < T.length ∧ t = T.getD j [] := by
  obtain ⟨i, hi⟩ := List.mem_iff_getElem?.1 h
  rw [List.getElem?_drop] at hi
  have hl := (List.getElem?_eq_some_iff.1 hi).1
  exact ⟨e + i, by omega, hl, by rw [List.getD_eq_getElem?_getD, hi]; rfl⟩
theorem tailIf_lbl {t : Tx} (h : t ≠ []) (n : Nat) : tailIf n t = if (t.headD 0).toNat = n then some t.tail else none := by
  cases t with
  | nil => exact absurd rfl h
  | cons a s => rfl
theorem subT_appendF (n : Nat) (A B : List Tx) : subT n (A ++ B) = subT n A ++ subT n B := List.filterMap_append
theorem subT_same {G : List Tx} {x : Nat} (h : ∀ t ∈ G, t ≠ [] ∧ (t.headD 0).toNat = x) : subT x G = G.map List.tail := by
  induction G with
  | nil => rfl
  | cons a t ih =>
    have ha := h a (by simp)
    have hi := ih fun u hu => h u (by simp [hu])
    rw [subT, List.filterMap_cons, tailIf_lbl ha.1, if_pos ha.2, List.map_cons]
    show a.tail :: subT x t = _
    rw [hi]
theorem subT_other {G : List Tx} {x : Nat} (h : ∀ t ∈ G, t ≠ [] ∧ (t.headD 0).toNat ≠ x) : subT x G = [] := by
  induction G with
  | nil => rfl
  | cons a t ih =>
    have ha := h a (by simp)
    rw [subT, List.filterMap_cons, tailIf_lbl ha.1, if_neg ha.2]
    exact ih fun u hu => h u (by simp [hu])
structure StepT (T : List Tx) (s e x : Nat) : Prop where
  labs : labelsT (T.drop s) = x :: labelsT (T.drop e)
  sub : subT x (T.drop s) = ((T.drop s).take (e - s)).map List.tail
  olds : ∀ k ∈ labelsT (T.drop e), subT k (T.drop s) = subT k (T.drop e)
  new : x ∉ labelsT (T.drop e)
theorem stepT {T : List Tx} (hr : RiseT T) (hf : FullT T) {e : Nat} (he : 0 < e) (hl : e ≤ T.length) (hc : CutT T e) : StepT T (gsT T (lblT T (e - 1)) e) e (lblT T (e - 1)) := by
  have hs := gsT_lt T he
  have hall := gsT_all T (lblT T (e - 1)) e
  generalize hx : lblT T (e - 1) = x at *
  generalize gsT T x e = s at *
  have hsplit : T.drop s = (T.drop s).take (e - s) ++ T.drop e := by
    have h1 := (List.take_append_drop (e - s) (T.drop s)).symm
    rw [List.drop_drop, show s + (e - s) = e by omega] at h1
    exact h1
  have hG : ∀ t ∈ (T.drop s).take (e - s), t ≠ [] ∧ (t.headD 0).toNat = x := by
    intro t ht
    obtain ⟨i, hi⟩ := List.mem_iff_getElem?.1 ht
    have hil := (List.getElem?_eq_some_iff.1 hi).1
    rw [List.length_take, List.length_drop] at hil
    rw [List.getElem?_take, if_pos (by omega), List.getElem?_drop] at hi
    have ht2 : t = T.getD (s + i) [] := by rw [List.getD_eq_getElem?_getD, hi]; rfl
    refine ⟨hf t (List.mem_of_mem_drop (List.mem_of_mem_take ht)), ?_⟩
    rw [ht2]
    exact hall (s + i) (by omega) (by omega)
  have hD : ∀ t ∈ T.drop e, t ≠ [] ∧ x < (t.headD 0).toNat := by
    intro t ht
    obtain ⟨j, hj1, hj2, rfl⟩ := drop_mem_lbl ht
    refine ⟨hf _ (getD_mem hj2), ?_⟩
    have h1 : lblT T e ≤ lblT T j := lbl_lt hr hf hj1 hj2
    have h2 : lblT T (e - 1) ≤ lblT T e := lbl_lt hr hf (by omega) (by omega)
    have h3 : lblT T (e - 1) ≠ lblT T e := by
      rcases hc with h | h | h
      · omega
      · omega
      · exact h
    show x < lblT T j
    omega
  have hx256 : x < 256 := by rw [← hx]; exact UInt8.toNat_lt _
  have hDx : subT x (T.drop e) = [] := subT_other fun t ht => ⟨(hD t ht).1, by have := (hD t ht).2; omega⟩
  have hGx : subT x ((T.drop s).take (e - s)) = ((T.drop s).take (e - s)).map List.tail := subT_same hG
  have hGk : ∀ k, k ≠ x → subT k ((T.drop s).take (e - s)) = [] := fun k hk => subT_other fun t ht => ⟨(hG t ht).1, by have := (hG t ht).2; omega⟩
  have hsubx : subT x (T.drop s) = ((T.drop s).take (e - s)).map List.tail := by
    rw [hsplit, subT_appendF, hDx, List.append_nil, hGx, ← hsplit]
  have hsubk : ∀ k, k ≠ x → subT k (T.drop s) = subT k (T.drop e) := fun k hk => by
    rw [hsplit, subT_appendF, hGk k hk, List.nil_append]
  have hnew : x ∉ labelsT (T.drop e) := fun h => (labelsT_mem.1 h).2 hDx
  have hbig : ∀ k ∈ labelsT (T.drop e), x < k := by
    intro k hk
    obtain ⟨t, ht⟩ := List.exists_mem_of_ne_nil _ (labelsT_mem.1 hk).2
    obtain ⟨c, hc, hm⟩ := subT_mem.1 ht
    have := (hD _ hm).2
    simp at this
    omega
  refine ⟨?_, hsubx, fun k hk => hsubk k (fun h => hnew (h ▸ hk)), hnew⟩
  refine sorted_ext (labelsT_lt _) (List.pairwise_cons.2 ⟨hbig, labelsT_lt _⟩) fun k => ?_
  rw [labelsT_mem, List.mem_cons, labelsT_mem]
  by_cases hk : k = x
  · subst hk
    rw [hsubx]
    simp only [true_or, iff_true]
    refine ⟨hx256, fun h => ?_⟩
    have := congrArg List.length h
    simp at this
    omega
  · rw [hsubk k hk]
    simp [hk]

/-- What freeze has made of the stretches from e on. -/
structure Part (L : List Ar) (h : Nat) (T : List Tx) (e n : Nat) (gf : Nat → Nat) : Prop where
  chain : ChainIs L (lkG (T.drop e) gf) n
  den : ∀ k ∈ labelsT (T.drop e), Den L h (subT k (T.drop e)) (gf k)
theorem Part.start (L : List Ar) (h : Nat) (T : List Tx) : Part L h T T.length 0 fun _ => 0 := by
  refine ⟨?_, fun k hk => ?_⟩
  · rw [List.drop_length, lkG_nil]; rfl
  · rw [List.drop_length, labelsT_nil] at hk; simp at hk
theorem Part.step {L L1 L2 : List Ar} {h : Nat} {T : List Tx} {e n m s0 : Nat} {gf : Nat → Nat} (hp : Part L h T e n gf) {s x : Nat} (hs : StepT T s e x) (h1 : L <+: L1) (h2 : L1 <+: L2)
    (hd : Den L1 h (((T.drop s).take (e - s)).map List.tail) s0) (hm : L2[m]? = some ((x : Int), (s0 : Int), (n : Int))) : Part L2 h T s (m + 1) fun k => if k = x then s0 else gf k := by
  refine ⟨?_, fun k hk => ?_⟩
  · have e1 : lkG (T.drop s) (fun k => if k = x then s0 else gf k) = ((x : Int), (s0 : Int)) :: lkG (T.drop e) gf := by
      unfold lkG
      rw [hs.labs, List.map_cons]
      simp only [if_true, List.cons.injEq, true_and]
      refine List.map_congr_left fun k hk => ?_
      have hkx : k ≠ x := fun h => hs.new (by rw [← h]; exact hk)
      rw [if_neg hkx]
    rw [e1]
    exact ⟨m, n, rfl, (hp.chain.mono h1).mono h2, hm⟩
  · by_cases hkx : k = x
    · subst hkx
      rw [if_pos rfl, hs.sub]
      exact hd.mono h2
    · rw [if_neg hkx]
      rw [hs.labs] at hk
      have hk2 := (List.mem_cons.1 hk).resolve_left hkx
      rw [hs.olds k hk2]
      exact ((hp.den k hk2).mono h1).mono h2
theorem subT_fin (k : Nat) (f : Bool) (T : List Tx) : subT k ((if f then [[]] else []) ++ T) = subT k T := by
  cases f with
  | false => rfl
  | true => rfl
theorem labelsT_fin (f : Bool) (T : List Tx) : labelsT ((if f then [[]] else []) ++ T) = labelsT T := by
  unfold labelsT
  simp only [subT_fin]
theorem finT_full {f : Bool} {T : List Tx} (h : FullT T) : finT ((if f then [[]] else []) ++ T) = f := by
  have h1 : finT T = false := by
    cases hx : finT T with
    | false => rfl
    | true => exact absurd rfl (h _ (finT_mem.1 hx))
  cases f with
  | true => simp [finT]
  | false => simpa using h1
theorem Part.whole {L : List Ar} {h : Nat} {T : List Tx} {n : Nat} {gf : Nat → Nat} (hp : Part L h T 0 n gf) (hf : FullT T) (f : Bool) : Den L (h + 1) ((if f then [[]] else []) ++ T) (frz n f) := by
  obtain ⟨h1, h2⟩ := hp
  rw [List.drop_zero] at h1 h2
  refine ⟨n, by rw [finT_full hf], gf, ?_, ?_⟩
  · unfold lkG at h1 ⊢
    rw [labelsT_fin]
    exact h1
  · intro k hk
    rw [labelsT_fin] at hk
    rw [subT_fin]
    exact h2 k hk
end Go.Proofs.Ytbkedgpligcicaa

namespace Go.Proofs.Ytbkedgpligcicaa
open Go Go.RowKit
set_option linter.unusedVariables false

set_option maxHeartbeats 2000000 in
set_option maxRecDepth 100000 in
theorem eqArc_same (p : Ar) (w : World) :
    Calls Try.prog 107 #[.agg #[.int .i64 p.1, .int .i64 p.2.1, .int .i64 p.2.2], .agg #[.int .i64 p.1, .int .i64 p.2.1, .int .i64 p.2.2]] w fun e w' => e = .returned (.bool true) ∧ Below w.heap.size w w' := by
  obtain ⟨p0, p1, p2⟩ := p
  have HBa : Hid (Below w.heap.size w ((w.alloc (.cells #[.int .i64 p0, .int .i64 p1, .int .i64 p2] 85)).alloc (.cells #[.int .i64 p0, .int .i64 p1, .int .i64 p2] 85))) := ((Below.refl _ _).alloc (Nat.le_refl _) _).alloc (by simp) _
  have h0 : (p0 != p0) = false := by simp
  have h1 : (p1 != p1) = false := by simp
  have h2 : (p2 != p2) = false := by simp
  dsimp only
  go_enter Try.func107, Try.ntmps107
  go_wp2_with fail
  go_ret
  exact ⟨rfl, HBa.out⟩
set_option maxHeartbeats 4000000 in
set_option maxRecDepth 100000 in
theorem eqArcs_same (a1 a2 : Option Addr) (c1 c2 : Nat) (l : List Ar) (w : World) (hn : l.length ≤ 1048576) (h1 : HoldA w a1 l) (h2 : HoldA w a2 l) :
    Calls Try.prog 103 #[.slice a1 l.length c1, .slice a2 l.length c2] w fun e w' => e = .returned (.bool true) ∧ Below w.heap.size w w' := by
  have H1 := hidd h1
  have H2 := hidd h2
  clear h1 h2
  go_enter Try.func103, Try.ntmps103
  go_wp2_with fail
  go_loopw [5] (fun iv wr => ∃ k : Nat, k ≤ l.length ∧ iv = .int .i64 (k : Int) ∧ Below w.heap.size w wr) (fun iv _ => l.length - (intOf iv).toNat)
  case atStart => exact ⟨0, Nat.zero_le _, rfl, Below.refl _ _⟩
  case round =>
    obtain ⟨k, hk, rfl, hbel⟩ := hrel
    have HB := hidd hbel
    clear hbel
    by_cases hlt : k < l.length
    · have hkz : (k : Int) < (l.length : Int) := by omega
      obtain ⟨b1, o1, rfl, hb1, hc1⟩ := (H1.out.below HB.out).resolve_left (fun h => by rw [h] at hlt; simp at hlt)
      obtain ⟨b2, o2, rfl, hb2, hc2⟩ := (H2.out.below HB.out).resolve_left (fun h => by rw [h] at hlt; simp at hlt)
      obtain ⟨x0, x1, x2⟩ := hc1 k hlt
      obtain ⟨y0, y1, y2⟩ := hc2 k hlt
      clear hc1 hc2
      generalize l.getD k ar0 = p at *
      go_wp2_with fail
      go_region_with (go_at_call 107; refine (eqArc_same p _).mono ?_; rintro e' w3 ⟨rfl, hb3⟩)
      all_goals
        go_wp2_with fail
        go_roundw
        · exact ⟨k + 1, by omega, by go_num, HB.out.trans ((below_drewN (Below.refl _ _) 1).trans hb3 |>.mono HB.out.size)⟩
        · simp [intOf]; omega
    · have hkz : ¬ (k : Int) < (l.length : Int) := by omega
      go_wp2_with fail
      go_ret
      exact ⟨rfl, HB.out⟩
set_option maxHeartbeats 2000000 in
set_option maxRecDepth 100000 in
theorem eqState_same (f : Bool) (a1 a2 : Option Addr) (c1 c2 : Nat) (l : List Ar) (w : World) (hn : l.length ≤ 1048576) (h1 : HoldA w a1 l) (h2 : HoldA w a2 l) :
    Calls Try.prog 86 #[.agg #[.bool f, .slice a1 l.length c1], .agg #[.bool f, .slice a2 l.length c2]] w fun e w' => e = .returned (.bool true) ∧ Below w.heap.size w w' := by
  have HBa : Hid (Below w.heap.size w ((w.alloc (.cells #[.bool f, .slice a1 l.length c1] 82)).alloc (.cells #[.bool f, .slice a2 l.length c2] 82))) := ((Below.refl _ _).alloc (Nat.le_refl _) _).alloc (by simp) _
  have H1 := hidd (h1.below HBa.out)
  have H2 := hidd (h2.below HBa.out)
  clear h1 h2
  have hneq : (f != f) = false := by cases f <;> rfl
  go_enter Try.func86, Try.ntmps86
  go_wp2_with fail
  refine (eqArcs_same a1 a2 c1 c2 l _ hn H1.out H2.out).mono ?_
  rintro e w3 ⟨rfl, hb3⟩
  have HB3 := hidd (HBa.out.trans (hb3.mono HBa.out.size))
  clear hb3
  go_wp2_with fail
  go_ret
  exact ⟨rfl, HB3.out⟩
set_option maxHeartbeats 4000000 in
set_option maxRecDepth 100000 in
theorem eqStates_same (a1 a2 : Option Addr) (c1 c2 : Nat) (S : List St) (w : World) (hn : S.length ≤ 1048576) (hA : ∀ i, (arcsAt S i).length ≤ 1048576) (h1 : HoldS w a1 S) (h2 : HoldS w a2 S) :
    Calls Try.prog 54 #[.slice a1 S.length c1, .slice a2 S.length c2] w fun e w' => e = .returned (.bool true) ∧ Below w.heap.size w w' := by
  have H1 := hidd h1
  have H2 := hidd h2
  have HA := hidd hA
  clear h1 h2 hA
  go_enter Try.func54, Try.ntmps54
  go_wp2_with fail
  go_loopw [5] (fun iv wr => ∃ k : Nat, k ≤ S.length ∧ iv = .int .i64 (k : Int) ∧ Below w.heap.size w wr) (fun iv _ => S.length - (intOf iv).toNat)
  case atStart => exact ⟨0, Nat.zero_le _, rfl, Below.refl _ _⟩
  case round =>
    obtain ⟨k, hk, rfl, hbel⟩ := hrel
    have HB := hidd hbel
    clear hbel
    by_cases hlt : k < S.length
    · have hkz : (k : Int) < (S.length : Int) := by omega
      obtain ⟨b1, o1, rfl, hb1, hc1⟩ := (H1.out.below HB.out).resolve_left (fun h => by rw [h] at hlt; simp at hlt)
      obtain ⟨b2, o2, rfl, hb2, hc2⟩ := (H2.out.below HB.out).resolve_left (fun h => by rw [h] at hlt; simp at hlt)
      obtain ⟨x0, ai, ci, x1, hx⟩ := hc1 k hlt
      obtain ⟨y0, aj, cj, y1, hy⟩ := hc2 k hlt
      clear hc1 hc2
      have hal := HA.out k
      rw [arcsAt] at hal
      have HC : Hid (Calls Try.prog 86 #[.agg #[.bool (S.getD k st0).1, .slice ai (S.getD k st0).2.length ci], .agg #[.bool (S.getD k st0).1, .slice aj (S.getD k st0).2.length cj]] wr.drew fun e w' => e = .returned (.bool true) ∧ Below wr.drew.heap.size wr.drew w') := eqState_same _ ai aj ci cj _ wr.drew hal (hx.below (below_drewN (Below.refl _ _) 1)) (hy.below (below_drewN (Below.refl _ _) 1))
      clear hx hy hal
      generalize S.getD k st0 = s at *
      go_wp2_with fail
      go_region_with (go_at_call 86; refine HC.out.mono ?_; rintro e' w3 ⟨rfl, hb3⟩)
      all_goals
        go_wp2_with fail
        go_roundw
        · exact ⟨k + 1, by omega, by go_num, HB.out.trans ((below_drewN (Below.refl _ _) 1).trans hb3 |>.mono HB.out.size)⟩
        · simp [intOf]; omega
    · have hkz : ¬ (k : Int) < (S.length : Int) := by omega
      go_wp2_with fail
      go_ret
      exact ⟨rfl, HB.out⟩
set_option maxHeartbeats 2000000 in
set_option maxRecDepth 100000 in
theorem eqDict_same (c : Int) (a1 a2 : Option Addr) (c1 c2 : Nat) (S : List St) (w : World) (hn : S.length ≤ 1048576) (hA : ∀ i, (arcsAt S i).length ≤ 1048576) (h1 : HoldS w a1 S) (h2 : HoldS w a2 S) :
    Calls Try.prog 19 #[.agg #[.int .i64 c, .slice a1 S.length c1], .agg #[.int .i64 c, .slice a2 S.length c2]] w fun e w' => e = .returned (.bool true) ∧ Below w.heap.size w w' := by
  have HBa : Hid (Below w.heap.size w ((w.alloc (.cells #[.int .i64 c, .slice a1 S.length c1] 27)).alloc (.cells #[.int .i64 c, .slice a2 S.length c2] 27))) := ((Below.refl _ _).alloc (Nat.le_refl _) _).alloc (by simp) _
  have H1 := hidd (h1.below HBa.out)
  have H2 := hidd (h2.below HBa.out)
  have HA := hidd hA
  clear h1 h2 hA
  have hneq : (c != c) = false := by simp
  go_enter Try.func19, Try.ntmps19
  go_wp2_with fail
  refine (eqStates_same a1 a2 c1 c2 S _ hn HA.out H1.out H2.out).mono ?_
  rintro e w3 ⟨rfl, hb3⟩
  have HB3 := hidd (HBa.out.trans (hb3.mono HBa.out.size))
  clear hb3
  go_wp2_with fail
  go_ret
  exact ⟨rfl, HB3.out⟩
end Go.Proofs.Ytbkedgpligcicaa

namespace Go.Proofs.Ytbkedgpligcicaa
open Go Go.RowKit
set_option linter.unusedVariables false

theorem Try.infoArc : (Try.prog.info? 85).map (fun i => (i.zero, i.size, i.bytes)) = some (some (.agg #[.int .i64 0, .int .i64 0, .int .i64 0]), 3, 24) := by kernel_rfl
def aCells (l : List Ar) : List Value := l.flatMap fun a => [.int .i64 a.1, .int .i64 a.2.1, .int .i64 a.2.2]
theorem aCells_len : ∀ l : List Ar, (aCells l).length = l.length * 3
  | [] => rfl
  | y :: t => by have := aCells_len t; simp only [aCells, List.flatMap_cons, List.length_append, List.length_cons, List.length_nil] at *; omega
theorem aCells_snoc (l : List Ar) (y : Ar) : aCells (l ++ [y]) = aCells l ++ [.int .i64 y.1, .int .i64 y.2.1, .int .i64 y.2.2] := by simp [aCells]
theorem aCells_at : ∀ (l : List Ar) (k : Nat), k < l.length → (aCells l)[k * 3]? = some (.int .i64 (l.getD k ar0).1) ∧ (aCells l)[k * 3 + 1]? = some (.int .i64 (l.getD k ar0).2.1) ∧ (aCells l)[k * 3 + 2]? = some (.int .i64 (l.getD k ar0).2.2)
  | y :: t, 0, _ => ⟨rfl, rfl, rfl⟩
  | y :: t, k + 1, h => by
    have ih := aCells_at t k (by simpa using h)
    have e : aCells (y :: t) = [.int .i64 y.1, .int .i64 y.2.1, .int .i64 y.2.2] ++ aCells t := by simp [aCells]
    rw [e, List.getElem?_append_right (by simp; omega), List.getElem?_append_right (by simp; omega), List.getElem?_append_right (by simp; omega)]
    simp only [List.length_cons, List.length_nil, List.getD_cons_succ]
    rw [show (k + 1) * 3 - (0 + 1 + 1 + 1) = k * 3 by omega, show (k + 1) * 3 + 1 - (0 + 1 + 1 + 1) = k * 3 + 1 by omega, show (k + 1) * 3 + 2 - (0 + 1 + 1 + 1) = k * 3 + 2 by omega]
    exact ih
theorem aSet (l : List Ar) (k : Nat) (xs : List Value) (hl : xs.length = l.length * 3) (hk : k < l.length) : (((aCells (l.take k) ++ xs.drop (k * 3)).set (k * 3) (.int .i64 (l.getD k ar0).1)).set (k * 3 + 1) (.int .i64 (l.getD k ar0).2.1)).set (k * 3 + 2) (.int .i64 (l.getD k ar0).2.2) = aCells (l.take (k + 1)) ++ xs.drop ((k + 1) * 3) := by
  have e : (aCells (l.take k)).length = k * 3 := by rw [aCells_len, List.length_take]; omega
  have d1 : xs.drop (k * 3) = xs[k * 3]'(by omega) :: xs[k * 3 + 1]'(by omega) :: xs[k * 3 + 2]'(by omega) :: xs.drop ((k + 1) * 3) := by
    rw [List.drop_eq_getElem_cons (by omega : k * 3 < xs.length), List.drop_eq_getElem_cons (by omega : k * 3 + 1 < xs.length), List.drop_eq_getElem_cons (by omega : k * 3 + 2 < xs.length), show k * 3 + 2 + 1 = (k + 1) * 3 by omega]
  rw [List.set_append_right _ _ (by omega), e, Nat.sub_self, d1, List.set_cons_zero, List.set_append_right _ _ (by omega), e, show k * 3 + 1 - k * 3 = 1 by omega, List.set_append_right _ _ (by omega), e, show k * 3 + 2 - k * 3 = 2 by omega, List.take_succ_eq_append_getElem hk, aCells_snoc, List.append_assoc]
  simp [hk]
theorem own3_lt {w : World} {base e g n cap : Nat} {xs : List Value} (h : w.ownsRow base e 3 (.slice (some ⟨g, 0, none⟩) n cap) n xs) : g < w.heap.size := by
  rcases h.2 with ⟨h', _⟩ | ⟨g', cap', cur, h', _, hg, _⟩
  · simp at h'
  · simp only [Value.slice.injEq, Option.some.injEq, Addr.mk.injEq, and_true, true_and] at h'
    obtain ⟨rfl, rfl⟩ := h'
    exact (Array.getElem?_eq_some_iff.1 hg).1
theorem own3_below {w w' : World} {base e n : Nat} {v : Value} {xs : List Value} (h : w.ownsRow base e 3 v n xs) (hb : Below w.heap.size w w') : w'.ownsRow base e 3 v n xs := by
  refine ⟨h.1, ?_⟩
  rcases h.2 with h' | ⟨g, cap, cur, h1, h2, h3, h4⟩
  · exact Or.inl h'
  · exact Or.inr ⟨g, cap, cur, h1, h2, by rw [hb.block g (Array.getElem?_eq_some_iff.1 h3).1]; exact h3, h4⟩
theorem holdA_own {w : World} {base g cap : Nat} {l : List Ar} (h : w.ownsRow base 85 3 (.slice (some ⟨g, 0, none⟩) l.length cap) l.length (aCells l)) : HoldA w (some ⟨g, 0, none⟩) l :=
  Or.inr ⟨g, 0, rfl, own3_lt h, fun t ht => by
    rw [Nat.zero_add]
    have := aCells_at l t ht
    exact ⟨by rw [h.cellAt (t * 3) (by omega)]; exact this.1, by rw [h.cellAt (t * 3 + 1) (by omega)]; exact this.2.1, by rw [h.cellAt (t * 3 + 2) (by omega)]; exact this.2.2⟩⟩

set_option maxHeartbeats 2000000 in
theorem toArc_any (p0 p1 p2 : Int) (w : World) :
    Calls Try.prog 108 #[.agg #[.int .i64 p0, .int .i64 p1, .int .i64 p2]] w fun e w' => e = .returned (.agg #[.int .i64 p0, .int .i64 p1, .int .i64 p2]) ∧ Below w.heap.size w w' := by
  go_enter Try.func108, Try.ntmps108
  go_wp2
  go_returns
  refine ⟨rfl, ?_⟩
  repeat (first | exact Below.refl _ _ | refine Below.alloc ?_ (by simp; try omega) _ | refine Below.setCell ?_ (by simp; try omega) _)

set_option maxHeartbeats 4000000 in
theorem toArcs_any (a : Option Addr) (cap : Nat) (l : List Ar) (w : World) (hn : l.length ≤ 1048576) (hS : HoldA w a l) :
    Calls Try.prog 105 #[.slice a l.length cap] w fun e w' => e = .returned (.slice (some ⟨w.heap.size, 0, none⟩) l.length l.length) ∧
      w'.ownsRow w.heap.size 85 3 (.slice (some ⟨w.heap.size, 0, none⟩) l.length l.length) l.length (aCells l) ∧ Below w.heap.size w w' := by
  obtain ⟨i0, hi, hz0, hz1, hz2⟩ := info_parts Try.infoArc
  have HS := hidd hS
  clear hS
  go_enter Try.func105, Try.ntmps105
  go_wp2_with (at_make; refine wpList_make_full _ rfl _ _ 80 rfl w.heap.size 85 i0 (.agg #[.int .i64 0, .int .i64 0, .int .i64 0]) 3 Try.underlying80 hi hz0 hz1 _ _ _ _ l.length rfl rfl (by omega) (by omega) ?b2 ?b3 (Nat.le_refl _) ?_)
  case b2 => (first | omega | (rw [hz2]; omega))
  case b3 => unfold maxLen; omega
  intro w0 hown0 hgrow0
  generalize (madeCells #[.int .i64 0, .int .i64 0, .int .i64 0] (l.length * 3)).toList = xs at hown0
  have hxl : xs.length = l.length * 3 := by have := hown0.1; omega
  have HO0 := hidd hown0
  have HB0 : Hid (Below w.heap.size w w0) := (Below.refl _ _).grown hgrow0 (Nat.le_refl _) (fun k h => by cases h)
  clear hown0 hgrow0
  go_wp2
  go_loopw [4] (fun i wr => ∃ k : Nat, k ≤ l.length ∧ i = .int .i64 k ∧ wr.ownsRow w.heap.size 85 3 (.slice (some ⟨w.heap.size, 0, none⟩) l.length l.length) l.length (aCells (l.take k) ++ xs.drop (k * 3)) ∧ Below w.heap.size w wr) (fun i _ => l.length - (intOf i).toNat)
  case atStart => exact ⟨0, Nat.zero_le _, rfl, HO0.out, HB0.out⟩
  case round =>
    obtain ⟨k, hk, rfl, hown, hbel⟩ := hrel
    have HO := hidd hown
    have HB := hidd hbel
    by_cases hlt : k < l.length
    · obtain ⟨b, off, rfl, hbl, hc⟩ := HS.out.resolve_left (fun h => by rw [h] at hlt; simp at hlt)
      have g1 := (hbel.cell (p := ⟨b, off + k * 3, none⟩) hbl).trans (hc k hlt).1
      have g2 := (hbel.cell (p := ⟨b, off + k * 3 + 1, none⟩) hbl).trans (hc k hlt).2.1
      have HSet := hidd (aSet l k xs hxl hlt)
      have g3 := (hbel.cell (p := ⟨b, off + k * 3 + 2, none⟩) hbl).trans (hc k hlt).2.2
      obtain ⟨p, hp⟩ : ∃ p, l.getD k ar0 = p := ⟨_, rfl⟩
      rw [hp] at g1 g2 g3 HSet
      clear hp
      obtain ⟨f, t, r⟩ := p
      dsimp only at g1 g2 g3 HSet
      clear hown hbel hc
      go_wp2_with fail
      refine (toArc_any f t r _).mono ?_
      rintro e w2 ⟨rfl, hb2⟩
      have hown2 := own3_below HO.out hb2
      have HB2 := hidd (HB.out.trans (hb2.mono HB.out.size))
      have f1 := hown2.frozenAt (k * 3)
      have f2 := hown2.frozenAt (k * 3 + 1)
      have f3 := hown2.frozenAt (k * 3 + 2)
      have hlen : (aCells (l.take k) ++ xs.drop (k * 3)).length = l.length * 3 := by rw [List.length_append, aCells_len, List.length_take, List.length_drop]; omega
      have hex : ∀ j, j < l.length * 3 → ∃ u, w2.cell? ⟨w.heap.size, j, none⟩ = some u := fun j hj => by
        rw [hown2.cellAt j hj]
        exact ⟨_, List.getElem?_eq_getElem (by omega)⟩
      obtain ⟨u1, q1⟩ := hex (k * 3) (by omega)
      obtain ⟨u2, q2⟩ := hex (k * 3 + 1) (by omega)
      obtain ⟨u3, q3⟩ := hex (k * 3 + 2) (by omega)
      have HO2 := hidd hown2
      clear hown2 hb2 hex hlen HO HB g1 g2 g3
      go_wp2
      go_roundw
      case rel =>
        have s0 := HO2.out.stored (k * 3) (.int .i64 f)
        have s1 := s0.1.stored (k * 3 + 1) (.int .i64 t)
        have s2 := s1.1.stored (k * 3 + 2) (.int .i64 r)
        have st := s2.1
        rw [HSet.out] at st
        exact ⟨k + 1, by omega, by go_num, st, (HB2.out.setCell (p := ⟨w.heap.size, k * 3, none⟩) (Nat.le_refl _) _).setCell (p := ⟨w.heap.size, k * 3 + 1, none⟩) (Nat.le_refl _) _ |>.setCell (p := ⟨w.heap.size, k * 3 + 2, none⟩) (Nat.le_refl _) _⟩
      case measure => simp [intOf]; omega
    · have HF := HO.out
      rw [List.take_of_length_le (by omega), List.drop_of_length_le (by omega), List.append_nil] at HF
      have HF2 := hidd HF
      clear HF hown hbel
      go_wp2
      go_ret
      exact ⟨rfl, HF2.out, HB.out⟩

end Go.Proofs.Ytbkedgpligcicaa

namespace Go.Proofs.Ytbkedgpligcicaa
open Go Go.RowKit
set_option linter.unusedVariables false

theorem Try.infoSt : (Try.prog.info? 82).map (fun i => (i.zero, i.size, i.bytes)) = some (some (.agg #[.bool false, .slice none 0 0]), 2, 32) := by kernel_rfl
theorem own2_lt {w : World} {base e g n cap : Nat} {xs : List Value} (h : w.ownsRow base e 2 (.slice (some ⟨g, 0, none⟩) n cap) n xs) : g < w.heap.size := by
  rcases h.2 with ⟨h', _⟩ | ⟨g', cap', cur, h', _, hg, _⟩
  · simp at h'
  · simp only [Value.slice.injEq, Option.some.injEq, Addr.mk.injEq, and_true, true_and] at h'
    obtain ⟨rfl, rfl⟩ := h'
    exact (Array.getElem?_eq_some_iff.1 hg).1
theorem own2_below {w w' : World} {base e n : Nat} {v : Value} {xs : List Value} (h : w.ownsRow base e 2 v n xs) (hb : Below w.heap.size w w') : w'.ownsRow base e 2 v n xs := by
  refine ⟨h.1, ?_⟩
  rcases h.2 with h' | ⟨g, cap, cur, h1, h2, h3, h4⟩
  · exact Or.inl h'
  · exact Or.inr ⟨g, cap, cur, h1, h2, by rw [hb.block g (Array.getElem?_eq_some_iff.1 h3).1]; exact h3, h4⟩

theorem HoldA.setOther {w : World} {a : Option Addr} {l : List Ar} (h : HoldA w a l) (B j : Nat) (u : Value) (hne : ∀ b off, a = some ⟨b, off, none⟩ → B < b) : HoldA (w.setCell ⟨B, j, none⟩ u) a l :=
  h.keep (by simp) fun b off e _ => heap_setCell_other w ⟨B, j, none⟩ b u (by have := hne b off e; show b ≠ B; omega)
set_option maxHeartbeats 4000000 in
set_option maxRecDepth 100000 in
theorem toState_any (f : Bool) (a : Option Addr) (cap : Nat) (l : List Ar) (w : World) (hn : l.length ≤ 1048576) (h : HoldA w a l) :
    Calls Try.prog 90 #[.agg #[.bool f, .slice a l.length cap]] w fun e w' => ∃ g, e = .returned (.agg #[.bool f, .slice (some ⟨g, 0, none⟩) l.length l.length]) ∧ w.heap.size ≤ g ∧ HoldA w' (some ⟨g, 0, none⟩) l ∧ Below w.heap.size w w' := by
  have HH := hidd h
  clear h
  go_enter Try.func90, Try.ntmps90
  go_upto_region 3 with fail
  obtain ⟨W3, hW3⟩ : ∃ W3, ((w.alloc (.cells #[.bool f, .slice a l.length cap] 150)).alloc (.cells #[.bool false, .slice none 0 0] 82)).alloc (.cells #[.bool f, .slice none 0 0] 82) = W3 := ⟨_, rfl⟩
  have hk0 : W3.heap[w.heap.size]? = some (.cells #[.bool f, .slice a l.length cap] 150) ∧ W3.heap[w.heap.size + 1]? = some (.cells #[.bool false, .slice none 0 0] 82) ∧ W3.heap[w.heap.size + 1 + 1]? = some (.cells #[.bool f, .slice none 0 0] 82) ∧ W3.heap.size = w.heap.size + 3 := by
    rw [← hW3]
    have h2 := box_two w (.cells #[.bool f, .slice a l.length cap] 150) (.cells #[.bool false, .slice none 0 0] 82)
    refine ⟨?_, ?_, ?_, by simp⟩
    · rw [Below.heap_alloc _ _ _ (by simp; omega)]; exact h2.1
    · rw [Below.heap_alloc _ _ _ (by simp)]; exact h2.2
    · have := heap_alloc_new ((w.alloc (.cells #[.bool f, .slice a l.length cap] 150)).alloc (.cells #[.bool false, .slice none 0 0] 82)) (.cells #[.bool f, .slice none 0 0] 82)
      simpa using this
  have HB3 : Hid (Below w.heap.size w W3) := by
    show Below _ _ _
    rw [← hW3]
    exact (((Below.refl _ _).alloc (Nat.le_refl _) _).alloc (by simp) _).alloc (by simp; omega) _
  try rw [hW3]
  clear hW3
  have HK := hidd hk0
  clear hk0
  have q1 : W3.cell? ⟨w.heap.size, 1, none⟩ = some (.slice a l.length cap) := blkc HK.out.1 1
  go_wp2_with fail
  refine (toArcs_any a cap l _ hn (HH.out.below HB3.out)).mono ?_
  rintro e w4 ⟨rfl, hown4, hb4⟩
  have Hh4 := hidd (holdA_own hown4)
  have hz3 := HK.out.2.2.2
  have k1 := blko HK.out.2.1 hb4
  have k2 := blko HK.out.2.2.1 hb4
  have HB4 := hidd (HB3.out.trans (hb4.mono HB3.out.size))
  have c10 : w4.cell? ⟨w.heap.size + 1, 0, none⟩ = some (.bool false) := blkc k1 0
  have c11 : w4.cell? ⟨w.heap.size + 1, 1, none⟩ = some (.slice none 0 0) := blkc k1 1
  have c20 : w4.cell? ⟨w.heap.size + 1 + 1, 0, none⟩ = some (.bool f) := blkc k2 0
  have c21 : w4.cell? ⟨w.heap.size + 1 + 1, 1, none⟩ = some (.slice none 0 0) := blkc k2 1
  have f10 : w4.frozen? ⟨w.heap.size + 1, 0, none⟩ = false := frozen_of_row w4 _ 0 _ _ k1
  have f11 : w4.frozen? ⟨w.heap.size + 1, 1, none⟩ = false := frozen_of_row w4 _ 1 _ _ k1
  have f21 : w4.frozen? ⟨w.heap.size + 1 + 1, 1, none⟩ = false := frozen_of_row w4 _ 1 _ _ k2
  clear hown4 hb4 HB3 q1
  rw [hz3] at Hh4
  clear k1 k2
  go_wp2_with fail
  refine bodyPost_ret (v := .agg #[.bool f, .slice (some ⟨w.heap.size + 3, 0, none⟩) l.length l.length]) (by simp [results, Try.results90, go_sem, *]) rfl ?_
  refine ⟨w.heap.size + 3, rfl, by omega, ?_, ?_⟩
  · repeat (first | exact Hh4.out | refine HoldA.setOther ?_ _ _ _ (fun b off e => by cases e; omega))
  · iterate 3 refine Below.setCell ?_ (by dsimp only; omega) _
    exact HB4.out

/-- Cells of states whose arcs lie somewhere. -/
def CellsS (w : World) (B : Nat) (zs : List Value) (S : List St) (k : Nat) : Prop := zs.length = k * 2 ∧ ∀ j, j < k → zs[j * 2]? = some (.bool (S.getD j st0).1) ∧ ∃ g c, zs[j * 2 + 1]? = some (.slice (some ⟨g, 0, none⟩) (S.getD j st0).2.length c) ∧ B < g ∧ HoldA w (some ⟨g, 0, none⟩) (S.getD j st0).2
theorem CellsS.below {w w' : World} {B : Nat} {zs : List Value} {S : List St} {k : Nat} (h : CellsS w B zs S k) (hb : Below w.heap.size w w') : CellsS w' B zs S k :=
  ⟨h.1, fun j hj => by obtain ⟨h1, g, c, h2, h3, h4⟩ := h.2 j hj; exact ⟨h1, g, c, h2, h3, h4.below hb⟩⟩
theorem CellsS.set {w : World} {B : Nat} {zs : List Value} {S : List St} {k : Nat} (h : CellsS w B zs S k) (i : Nat) (u : Value) : CellsS (w.setCell ⟨B, i, none⟩ u) B zs S k :=
  ⟨h.1, fun j hj => by obtain ⟨h1, g, c, h2, h3, h4⟩ := h.2 j hj; exact ⟨h1, g, c, h2, h3, h4.setOther B i u (fun b off e => by cases e; exact h3)⟩⟩
theorem CellsS.snoc {w : World} {B g c : Nat} {zs : List Value} {S : List St} {k : Nat} (h : CellsS w B zs S k) (hg : B < g) (hh : HoldA w (some ⟨g, 0, none⟩) (S.getD k st0).2) : CellsS w B (zs ++ [.bool (S.getD k st0).1, .slice (some ⟨g, 0, none⟩) (S.getD k st0).2.length c]) S (k + 1) := by
  refine ⟨by rw [List.length_append, h.1]; simp; omega, fun j hj => ?_⟩
  have hl := h.1
  by_cases hjk : j = k
  · subst hjk
    refine ⟨?_, g, c, ?_, hg, hh⟩
    · rw [List.getElem?_append_right (by omega), hl, Nat.sub_self]; rfl
    · rw [List.getElem?_append_right (by omega), hl, show j * 2 + 1 - j * 2 = 1 by omega]; rfl
  · obtain ⟨h1, g', c', h2, h3, h4⟩ := h.2 j (by omega)
    exact ⟨by rw [List.getElem?_append_left (by omega)]; exact h1, g', c', by rw [List.getElem?_append_left (by omega)]; exact h2, h3, h4⟩
theorem setTwo (zs xs : List Value) (k n : Nat) (u v : Value) (hz : zs.length = k * 2) (hx : xs.length = n * 2) (hk : k < n) : ((zs ++ xs.drop (k * 2)).set (k * 2) u).set (k * 2 + 1) v = (zs ++ [u, v]) ++ xs.drop ((k + 1) * 2) := by
  have d1 : xs.drop (k * 2) = xs[k * 2]'(by omega) :: xs[k * 2 + 1]'(by omega) :: xs.drop ((k + 1) * 2) := by
    rw [List.drop_eq_getElem_cons (by omega : k * 2 < xs.length), List.drop_eq_getElem_cons (by omega : k * 2 + 1 < xs.length), show k * 2 + 1 + 1 = (k + 1) * 2 by omega]
  rw [List.set_append_right _ _ (by omega), hz, Nat.sub_self, d1, List.set_cons_zero, List.set_append_right _ _ (by omega), hz, show k * 2 + 1 - k * 2 = 1 by omega, List.append_assoc]
  rfl
/-- States that lie in new blocks alone. -/
def HoldN (w : World) (base : Nat) (a : Option Addr) (S : List St) : Prop := ∀ w', w.heap.size ≤ w'.heap.size → (∀ b, base ≤ b → b < w.heap.size → w'.heap[b]? = w.heap[b]?) → HoldS w' a S
theorem HoldN.now {w : World} {base : Nat} {a : Option Addr} {S : List St} (h : HoldN w base a S) : HoldS w a S := h w (Nat.le_refl _) fun _ _ _ => rfl
theorem HoldN.set {w : World} {base : Nat} {a : Option Addr} {S : List St} (h : HoldN w base a S) (B j : Nat) (u : Value) (hB : B < base) : HoldN (w.setCell ⟨B, j, none⟩ u) base a S := fun w' hz hk =>
  h w' (by simpa using hz) fun b hb hbl => (hk b hb (by simpa using hbl)).trans (heap_setCell_other w ⟨B, j, none⟩ b u (by show b ≠ B; omega))
theorem HoldN.below {w w' : World} {base : Nat} {a : Option Addr} {S : List St} (h : HoldN w base a S) (hb : Below w.heap.size w w') : HoldN w' base a S := fun w'' hz hk =>
  h w'' (Nat.le_trans hb.size hz) fun b h1 h2 => (hk b h1 (Nat.lt_of_lt_of_le h2 hb.size)).trans (hb.block b h2)
set_option maxHeartbeats 4000000 in
set_option maxRecDepth 100000 in
theorem toStates_any (a : Option Addr) (cap : Nat) (S : List St) (w : World) (hn : S.length ≤ 1048576) (hA : ∀ i, (arcsAt S i).length ≤ 1048576) (hS : HoldS w a S) :
    Calls Try.prog 60 #[.slice a S.length cap] w fun e w' => e = .returned (.slice (some ⟨w.heap.size, 0, none⟩) S.length S.length) ∧ HoldN w' w.heap.size (some ⟨w.heap.size, 0, none⟩) S ∧ w.heap.size < w'.heap.size ∧ Below w.heap.size w w' := by
  obtain ⟨i0, hi, hz0, hz1, hz2⟩ := info_parts Try.infoSt
  have HS := hidd hS
  have HA := hidd hA
  clear hS hA
  go_enter Try.func60, Try.ntmps60
  go_wp2_with (at_make; refine wpList_make_full _ rfl _ _ 25 rfl w.heap.size 82 i0 (.agg #[.bool false, .slice none 0 0]) 2 Try.underlying25 hi hz0 hz1 _ _ _ _ S.length rfl rfl (by omega) (by omega) ?b2 ?b3 (Nat.le_refl _) ?_)
  case b2 => (first | omega | (rw [hz2]; omega))
  case b3 => unfold maxLen; omega
  intro w0 hown0 hgrow0
  generalize (madeCells #[.bool false, .slice none 0 0] (S.length * 2)).toList = xs at hown0
  have hxl : xs.length = S.length * 2 := by have := hown0.1; omega
  have HO0 := hidd hown0
  have HB0 : Hid (Below w.heap.size w w0) := (Below.refl _ _).grown hgrow0 (Nat.le_refl _) (fun k h => by cases h)
  clear hown0 hgrow0
  go_wp2
  go_loopw [4] (fun i wr => ∃ (k : Nat) (zs : List Value), k ≤ S.length ∧ i = .int .i64 k ∧ wr.ownsRow w.heap.size 82 2 (.slice (some ⟨w.heap.size, 0, none⟩) S.length S.length) S.length (zs ++ xs.drop (k * 2)) ∧ CellsS wr w.heap.size zs S k ∧ Below w.heap.size w wr) (fun i _ => S.length - (intOf i).toNat)
  case atStart => exact ⟨0, [], Nat.zero_le _, rfl, HO0.out, ⟨rfl, fun j hj => absurd hj (by omega)⟩, HB0.out⟩
  case round =>
    obtain ⟨k, zs, hk, rfl, hown, hcs, hbel⟩ := hrel
    have HO := hidd hown
    have HB := hidd hbel
    have HC := hidd hcs
    have hrl : w.heap.size < wr.heap.size := own2_lt hown
    clear hcs
    by_cases hlt : k < S.length
    · obtain ⟨b, off, rfl, hbl, hc⟩ := (HS.out.below hbel).resolve_left (fun h => by rw [h] at hlt; simp at hlt)
      obtain ⟨x0, ai, ci, x1, hha⟩ := hc k hlt
      have hal := HA.out k
      rw [arcsAt] at hal
      have HHA := hidd hha
      have Hsn := hidd (fun (w' : World) (g c : Nat) (h : CellsS w' w.heap.size zs S k) => CellsS.snoc (c := c) (g := g) h)
      clear hown hbel hc hha
      obtain ⟨s, hs⟩ : ∃ s, S.getD k st0 = s := ⟨_, rfl⟩
      rw [hs] at x0 x1 HHA hal Hsn
      clear hs
      obtain ⟨f, l⟩ := s
      dsimp only at x0 x1 HHA hal Hsn
      go_wp2_with fail
      refine (toState_any f ai ci l _ hal HHA.out).mono ?_
      rintro e w2 ⟨g, rfl, hg, hh2, hb2⟩
      have hown2 := own2_below HO.out hb2
      have HB2 := hidd (HB.out.trans (hb2.mono HB.out.size))
      have HC2 := hidd (HC.out.below hb2)
      have HH2 := hidd hh2
      have f1 := hown2.frozenAt (k * 2)
      have f2 := hown2.frozenAt (k * 2 + 1)
      have hzl := HC.out.1
      have hlen : (zs ++ xs.drop (k * 2)).length = S.length * 2 := by rw [List.length_append, hzl, List.length_drop]; omega
      have hex : ∀ j, j < S.length * 2 → ∃ u, w2.cell? ⟨w.heap.size, j, none⟩ = some u := fun j hj => by
        rw [hown2.cellAt j hj]
        exact ⟨_, List.getElem?_eq_getElem (by omega)⟩
      obtain ⟨u1, q1⟩ := hex (k * 2) (by omega)
      obtain ⟨u2, q2⟩ := hex (k * 2 + 1) (by omega)
      have HO2 := hidd hown2
      have HSet := hidd (setTwo zs xs k S.length (.bool f) (.slice (some ⟨g, 0, none⟩) l.length l.length) hzl hxl hlt)
      clear hown2 hb2 hex hlen HO HB x0 x1 hh2 HC
      go_wp2
      go_roundw
      case rel =>
        have s0 := HO2.out.stored (k * 2) (.bool f)
        have s1 := s0.1.stored (k * 2 + 1) (.slice (some ⟨g, 0, none⟩) l.length l.length)
        have st := s1.1
        rw [HSet.out] at st
        exact ⟨k + 1, _, by omega, by go_num, st, Hsn.out _ g l.length ((HC2.out.set _ _).set _ _) (by omega) ((HH2.out.setOther _ _ _ (fun b off e => by cases e; omega)).setOther _ _ _ (fun b off e => by cases e; omega)), (HB2.out.setCell (p := ⟨w.heap.size, k * 2, none⟩) (Nat.le_refl _) _).setCell (p := ⟨w.heap.size, k * 2 + 1, none⟩) (Nat.le_refl _) _⟩
      case measure => simp [intOf]; omega
    · obtain rfl : k = S.length := by omega
      have HF := HO.out
      rw [List.drop_of_length_le (by omega), List.append_nil] at HF
      have HF2 : Hid (HoldN wr w.heap.size (some ⟨w.heap.size, 0, none⟩) S) := fun w' hz hk => Or.inr ⟨w.heap.size, 0, rfl, by omega, fun j hj => by
        obtain ⟨h1, g, c, h2, h3, h4⟩ := HC.out.2 j hj
        have e : ∀ i, w'.cell? ⟨w.heap.size, i, none⟩ = wr.cell? ⟨w.heap.size, i, none⟩ := fun i => by simp [World.cell?, hk w.heap.size (Nat.le_refl _) hrl]
        rw [Nat.zero_add, e, e]
        exact ⟨by rw [HF.cellAt (j * 2) (by omega)]; exact h1, _, c, by rw [HF.cellAt (j * 2 + 1) (by omega)]; exact h2, h4.keep hz fun b off he hb => hk b (by cases he; omega) hb⟩⟩
      clear HF hown hbel
      go_wp2
      go_ret
      exact ⟨rfl, HF2.out, hrl, HB.out⟩
set_option maxHeartbeats 4000000 in
set_option maxRecDepth 100000 in
theorem toDict_any (f : Int) (a : Option Addr) (cap : Nat) (l : List St) (w : World) (hn : l.length ≤ 1048576) (hA : ∀ i, (arcsAt l i).length ≤ 1048576) (h : HoldS w a l) :
    Calls Try.prog 26 #[.agg #[.int .i64 f, .slice a l.length cap]] w fun e w' => ∃ g, e = .returned (.agg #[.int .i64 f, .slice (some ⟨g, 0, none⟩) l.length l.length]) ∧ w.heap.size ≤ g ∧ HoldN w' g (some ⟨g, 0, none⟩) l ∧ Below w.heap.size w w' := by
  have HH := hidd h
  clear h
  go_enter Try.func26, Try.ntmps26
  go_upto_region 3 with fail
  obtain ⟨W3, hW3⟩ : ∃ W3, ((w.alloc (.cells #[.int .i64 f, .slice a l.length cap] 49)).alloc (.cells #[.int .i64 0, .slice none 0 0] 27)).alloc (.cells #[.int .i64 f, .slice none 0 0] 27) = W3 := ⟨_, rfl⟩
  have hk0 : W3.heap[w.heap.size]? = some (.cells #[.int .i64 f, .slice a l.length cap] 49) ∧ W3.heap[w.heap.size + 1]? = some (.cells #[.int .i64 0, .slice none 0 0] 27) ∧ W3.heap[w.heap.size + 1 + 1]? = some (.cells #[.int .i64 f, .slice none 0 0] 27) ∧ W3.heap.size = w.heap.size + 3 := by
    rw [← hW3]
    have h2 := box_two w (.cells #[.int .i64 f, .slice a l.length cap] 49) (.cells #[.int .i64 0, .slice none 0 0] 27)
    refine ⟨?_, ?_, ?_, by simp⟩
    · rw [Below.heap_alloc _ _ _ (by simp; omega)]; exact h2.1
    · rw [Below.heap_alloc _ _ _ (by simp)]; exact h2.2
    · have := heap_alloc_new ((w.alloc (.cells #[.int .i64 f, .slice a l.length cap] 49)).alloc (.cells #[.int .i64 0, .slice none 0 0] 27)) (.cells #[.int .i64 f, .slice none 0 0] 27)
      simpa using this
  have HB3 : Hid (Below w.heap.size w W3) := by
    show Below _ _ _
    rw [← hW3]
    exact (((Below.refl _ _).alloc (Nat.le_refl _) _).alloc (by simp) _).alloc (by simp; omega) _
  try rw [hW3]
  clear hW3
  have HK := hidd hk0
  clear hk0
  have q1 : W3.cell? ⟨w.heap.size, 1, none⟩ = some (.slice a l.length cap) := blkc HK.out.1 1
  go_wp2_with fail
  refine (toStates_any a cap l _ hn hA (HH.out.below HB3.out)).mono ?_
  rintro e w4 ⟨rfl, hhn4, hsz4, hb4⟩
  have Hh4 := hidd hhn4
  have hz3 := HK.out.2.2.2
  have k1 := blko HK.out.2.1 hb4
  have k2 := blko HK.out.2.2.1 hb4
  have HB4 := hidd (HB3.out.trans (hb4.mono HB3.out.size))
  have c10 : w4.cell? ⟨w.heap.size + 1, 0, none⟩ = some (.int .i64 0) := blkc k1 0
  have c11 : w4.cell? ⟨w.heap.size + 1, 1, none⟩ = some (.slice none 0 0) := blkc k1 1
  have c20 : w4.cell? ⟨w.heap.size + 1 + 1, 0, none⟩ = some (.int .i64 f) := blkc k2 0
  have c21 : w4.cell? ⟨w.heap.size + 1 + 1, 1, none⟩ = some (.slice none 0 0) := blkc k2 1
  have f10 : w4.frozen? ⟨w.heap.size + 1, 0, none⟩ = false := frozen_of_row w4 _ 0 _ _ k1
  have f11 : w4.frozen? ⟨w.heap.size + 1, 1, none⟩ = false := frozen_of_row w4 _ 1 _ _ k1
  have f21 : w4.frozen? ⟨w.heap.size + 1 + 1, 1, none⟩ = false := frozen_of_row w4 _ 1 _ _ k2
  clear hhn4 hsz4 hb4 HB3 q1
  rw [hz3] at Hh4
  clear k1 k2
  go_wp2_with fail
  refine bodyPost_ret (v := .agg #[.int .i64 f, .slice (some ⟨w.heap.size + 3, 0, none⟩) l.length l.length]) (by simp [results, Try.results26, go_sem, *]) rfl ?_
  refine ⟨w.heap.size + 3, rfl, by omega, ?_, ?_⟩
  · iterate 3 refine HoldN.set ?_ _ _ _ (by omega)
    exact Hh4.out
  · iterate 3 refine Below.setCell ?_ (by dsimp only; omega) _
    exact HB4.out

end Go.Proofs.Ytbkedgpligcicaa

namespace Go.Proofs.Ytbkedgpligcicaa
open Go Go.RowKit
set_option linter.unusedVariables false

def szN (left : Int) (n : Nat) : Int := if left - (n : Int) < 0 then -1 else left - (n : Int)
def szGoD : Int → List St → Int
  | left, [] => left
  | left, s :: t => if szN left s.2.length < 0 then -1 else szGoD (szN left s.2.length) t
def szD (left : Int) (S : List St) : Int := if left - (S.length : Int) < 0 then -1 else szGoD (left - (S.length : Int)) S
theorem szGoD_ok : ∀ (S : List St) (left : Int), 0 ≤ szGoD left S → szGoD left S ≤ left ∧ ∀ s ∈ S, (s.2.length : Int) ≤ left
  | [], left, h => ⟨by simp [szGoD], by simp⟩
  | s :: t, left, h => by
    simp only [szGoD] at h ⊢
    split at h
    · omega
    · rename_i hn
      rw [if_neg hn]
      have hs : (s.2.length : Int) ≤ left ∧ szN left s.2.length ≤ left := by
        unfold szN at hn ⊢
        split at hn
        · omega
        · rename_i h2; rw [if_neg h2]; omega
      obtain ⟨h1, h2⟩ := szGoD_ok t _ h
      refine ⟨by omega, fun x hx => ?_⟩
      rcases List.mem_cons.1 hx with rfl | hx
      · exact hs.1
      · have := h2 x hx; omega
theorem szD_ok {S : List St} (h : 0 ≤ szD 1048576 S) : S.length ≤ 1048576 ∧ ∀ i, (arcsAt S i).length ≤ 1048576 := by
  unfold szD at h
  split at h
  · omega
  · obtain ⟨h1, h2⟩ := szGoD_ok S _ h
    refine ⟨by omega, fun i => ?_⟩
    by_cases hi : i < S.length
    · have : S.getD i st0 ∈ S := by rw [List.getD_eq_getElem?_getD, List.getElem?_eq_getElem hi]; exact List.getElem_mem _
      have := h2 _ this
      unfold arcsAt
      omega
    · simp [arcsAt, hi, st0]
theorem szN_le (left : Int) (n : Nat) (h0 : 0 ≤ left) : -1 ≤ szN left n ∧ szN left n ≤ left := by
  unfold szN; split <;> omega
theorem szGoD_step (S : List St) (k : Nat) (left : Int) (h : k < S.length) : szGoD left (S.drop k) = if szN left (S.getD k st0).2.length < 0 then -1 else szGoD (szN left (S.getD k st0).2.length) (S.drop (k + 1)) := by
  rw [List.drop_eq_getElem_cons h, szGoD]; simp [h]

set_option maxHeartbeats 1000000 in
theorem szArcs_any (a : Option Addr) (n c : Nat) (left : Int) (w : World) (h0 : 0 ≤ left) (h1 : left ≤ 1048576) (hn : n ≤ 9223372036854775807) :
    Calls Try.prog 104 #[.slice a n c, .int .i64 left] w fun e w' => e = .returned (.int .i64 (szN left n)) ∧ w' = w := by
  by_cases h : left - (n : Int) < 0
  · have HE : Hid (szN left n = -1) := by show _ = _; rw [szN, if_pos h]
    go_enter Try.func104, Try.ntmps104
    go_wp2_with fail
    go_ret
    rw [HE.out]
    exact ⟨rfl, rfl⟩
  · have HE : Hid (szN left n = left - (n : Int)) := by show _ = _; rw [szN, if_neg h]
    go_enter Try.func104, Try.ntmps104
    go_wp2_with fail
    go_ret
    rw [HE.out]
    exact ⟨rfl, rfl⟩
set_option maxHeartbeats 1000000 in
theorem szState_any (f : Bool) (a : Option Addr) (n c : Nat) (left : Int) (w : World) (h0 : 0 ≤ left) (h1 : left ≤ 1048576) (hn : n ≤ 9223372036854775807) :
    Calls Try.prog 89 #[.agg #[.bool f, .slice a n c], .int .i64 left] w fun e w' => e = .returned (.int .i64 (szN left n)) ∧ Below w.heap.size w w' := by
  have HBa : Hid (Below w.heap.size w (w.alloc (.cells #[.bool f, .slice a n c] 150))) := (Below.refl _ _).alloc (Nat.le_refl _) _
  have hs := szN_le left n h0
  obtain ⟨X, hX0⟩ : ∃ X, szN left n = X := ⟨_, rfl⟩
  rw [hX0] at hs ⊢
  have HX := hidd hX0
  clear hX0
  go_enter Try.func89, Try.ntmps89
  go_wp2_with fail
  refine (szArcs_any a n c left _ h0 h1 hn).mono ?_
  rintro e w' ⟨rfl, hw'⟩
  subst hw'
  rw [HX.out]
  by_cases hX : X < 0
  · obtain rfl : X = -1 := by omega
    go_wp2_with fail
    go_ret
    exact ⟨rfl, HBa.out⟩
  · go_wp2_with fail
    go_ret
    exact ⟨rfl, HBa.out⟩
set_option maxHeartbeats 2000000 in
set_option maxRecDepth 100000 in
theorem szStates_any (a : Option Addr) (c : Nat) (S : List St) (left : Int) (w : World) (h0 : 0 ≤ left) (h1 : left ≤ 1048576) (hn : S.length ≤ 9223372036854775807) (hA : ∀ i, (arcsAt S i).length ≤ 9223372036854775807) (hS : HoldS w a S) :
    Calls Try.prog 58 #[.slice a S.length c, .int .i64 left] w fun e w' => e = .returned (.int .i64 (szD left S)) ∧ Below w.heap.size w w' := by
  have HS := hidd hS
  have HA := hidd hA
  clear hS hA
  by_cases h : left - (S.length : Int) < 0
  · have HE : Hid (szD left S = -1) := by show _ = _; rw [szD, if_pos h]
    go_enter Try.func58, Try.ntmps58
    go_wp2_with fail
    go_ret
    rw [HE.out]
    exact ⟨rfl, Below.refl _ _⟩
  · obtain ⟨R, hR⟩ : ∃ R, szD left S = R := ⟨_, rfl⟩
    rw [hR]
    have HE : Hid (szGoD (left - (S.length : Int)) S = R) := by show _ = _; rw [← hR, szD, if_neg h]
    clear hR
    go_enter Try.func58, Try.ntmps58
    go_wp2_with fail
    go_loopw [1, 5] (fun lv iv wr => ∃ (k : Nat) (x : Int), k ≤ S.length ∧ iv = .int .i64 (k : Int) ∧ lv = .int .i64 x ∧ 0 ≤ x ∧ x ≤ 1048576 ∧ szGoD x (S.drop k) = R ∧ Below w.heap.size w wr) (fun _ iv _ => S.length - (intOf iv).toNat)
    case atStart => exact ⟨0, _, Nat.zero_le _, rfl, rfl, by omega, by omega, by rw [List.drop_zero]; exact HE.out, Below.refl _ _⟩
    case round =>
      clear HE
      obtain ⟨k, x, hk, rfl, rfl, hx0, hx1, hgo, hbel⟩ := hrel
      have HG := hidd hgo
      have HB := hidd hbel
      clear hgo hbel
      by_cases hlt : k < S.length
      · have hkz : (k : Int) < (S.length : Int) := by omega
        obtain ⟨b, off, rfl, hbl, hc⟩ := (HS.out.below HB.out).resolve_left (fun h => by rw [h] at hlt; simp at hlt)
        obtain ⟨x0, ai, ci, x1, hha⟩ := hc k hlt
        clear hc hha
        rw [szGoD_step S k x hlt] at HG
        have hal := HA.out k
        rw [arcsAt] at hal
        generalize S.getD k st0 = s at *
        obtain ⟨f, l⟩ := s
        dsimp only at x0 x1 HG hal
        have hs := szN_le x l.length hx0
        go_wp2_with fail
        refine (szState_any f ai l.length ci x _ hx0 hx1 hal).mono ?_
        rintro e w3 ⟨rfl, hb3⟩
        have HB3 := hidd (HB.out.trans (hb3.mono HB.out.size))
        clear hb3
        generalize szN x l.length = X at *
        by_cases hX : X < 0
        · obtain rfl : X = -1 := by omega
          rw [if_pos hX] at HG
          go_wp2_with fail
          go_ret
          rw [← HG.out]
          exact ⟨rfl, HB3.out⟩
        · rw [if_neg hX] at HG
          go_wp2_with fail
          go_roundw
          case rel => exact ⟨k + 1, X, by omega, by go_num, rfl, by omega, by omega, HG.out, HB3.out⟩
          case measure => simp [intOf]; omega
      · have hkz : ¬ (k : Int) < (S.length : Int) := by omega
        rw [List.drop_of_length_le (by omega), szGoD] at HG
        go_wp2_with fail
        go_ret
        rw [← HG.out]
        exact ⟨rfl, HB.out⟩
set_option maxHeartbeats 1000000 in
theorem szDict_any (c : Int) (a : Option Addr) (cap : Nat) (S : List St) (w : World) (hn : S.length ≤ 9223372036854775807) (hA : ∀ i, (arcsAt S i).length ≤ 9223372036854775807) (hS : HoldS w a S) :
    Calls Try.prog 24 #[.agg #[.int .i64 c, .slice a S.length cap], .int .i64 1048576] w fun e w' => e = .returned (.int .i64 (szD 1048576 S)) ∧ Below w.heap.size w w' := by
  have HBa : Hid (Below w.heap.size w (w.alloc (.cells #[.int .i64 c, .slice a S.length cap] 49))) := (Below.refl _ _).alloc (Nat.le_refl _) _
  have HS := hidd hS
  clear hS
  obtain ⟨X, hX0⟩ : ∃ X, szD 1048576 S = X := ⟨_, rfl⟩
  have hge : -1 ≤ X := by
    rw [← hX0]
    unfold szD
    split
    · omega
    · have key : ∀ (t : List St) (l : Int), 0 ≤ l → -1 ≤ szGoD l t := by
        intro t
        induction t with
        | nil => intro l hl; simp [szGoD]; omega
        | cons s t ih =>
          intro l hl
          simp only [szGoD]
          split
          · omega
          · exact ih _ (by omega)
      exact key S _ (by omega)
  rw [hX0]
  have HX := hidd hX0
  clear hX0
  go_enter Try.func24, Try.ntmps24
  go_wp2_with fail
  refine (szStates_any a cap S 1048576 _ (by omega) (by omega) hn hA (HS.out.below HBa.out)).mono ?_
  rintro e w3 ⟨rfl, hb3⟩
  have HB3 := hidd (HBa.out.trans (hb3.mono HBa.out.size))
  clear hb3
  rw [HX.out]
  by_cases hX : X < 0
  · obtain rfl : X = -1 := by omega
    go_wp2_with fail
    go_ret
    exact ⟨rfl, HB3.out⟩
  · go_wp2_with fail
    go_ret
    exact ⟨rfl, HB3.out⟩
end Go.Proofs.Ytbkedgpligcicaa

namespace Go.Proofs.Ytbkedgpligcicaa
open Go Go.RowKit
set_option linter.unusedVariables false

/-- Whether states and a count are a dictionary. -/
noncomputable def okD (c : Int) (S : List St) : Bool := @decide (∃ ts, IsDict (c, S) ts) (Classical.propDecidable _)
/-- What the two functions have to do. -/
def OkC (fn : Nat) : Prop := ∀ (c : Int) (a : Option Addr) (cap : Nat) (S : List St) (w : World), S.length ≤ 1048576 → (∀ i, (arcsAt S i).length ≤ 1048576) → HoldS w a S →
  Calls Try.prog fn #[.agg #[.int .i64 c, .slice a S.length cap]] w fun e w' => e = .returned (.bool (okD c S)) ∧ Below w.heap.size w w'

end Go.Proofs.Ytbkedgpligcicaa
