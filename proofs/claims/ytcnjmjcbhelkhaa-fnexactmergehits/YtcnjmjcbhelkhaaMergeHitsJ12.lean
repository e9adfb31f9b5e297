import Derived.Test.YtcnjmjcbhelkhaaMergeHitsJ11
import Derived.Laws.AppendOwn
import Derived.Test.YtcnjmjcbhelkhaaProg
import Derived.Test.YtcnjmjcbhelkhaaMergeHitsJ00
import Derived.WalkLawsBesides
namespace Go.Proofs.Ytcnjmjcbhelkhaa
open Go Go.RowKit Go.Shelf
set_option linter.unusedVariables false
set_option maxRecDepth 100000
set_option linter.unusedSimpArgs false

/-! slices.Concat at hits. -/
theorem Try.infoFd : (Try.prog.info? 47).map (fun i => (i.zero, i.size, i.bytes)) = some (some (.agg #[.string ⟨#[]⟩, .int .i64 0, .slice none 0 0]), 3, 48) := by kernel_rfl
theorem CelF.append {xs ys : List Value} {A B : List Fd} (h : CelF xs A) (hl : xs.length = A.length * 3) (k : CelF ys B) : CelF (xs ++ ys) (A ++ B) := by
  intro i hi
  rw [List.length_append] at hi
  by_cases e : i < A.length
  · obtain ⟨ka, kc, h0, h1, h2⟩ := h i e
    have g : (A ++ B).getD i fd0 = A.getD i fd0 := by simp [List.getD_eq_getElem?_getD, List.getElem?_append_left e]
    rw [g]
    exact ⟨ka, kc, by rw [List.getElem?_append_left (by omega)]; exact h0, by rw [List.getElem?_append_left (by omega)]; exact h1, by rw [List.getElem?_append_left (by omega)]; exact h2⟩
  · obtain ⟨ka, kc, h0, h1, h2⟩ := k (i - A.length) (by omega)
    have g : (A ++ B).getD i fd0 = B.getD (i - A.length) fd0 := by simp [List.getD_eq_getElem?_getD, List.getElem?_append_right (by omega : A.length ≤ i)]
    rw [g]
    refine ⟨ka, kc, ?_, ?_, ?_⟩
    · rw [List.getElem?_append_right (by omega), show i * 3 - xs.length = (i - A.length) * 3 by omega]; exact h0
    · rw [List.getElem?_append_right (by omega), show i * 3 + 1 - xs.length = (i - A.length) * 3 + 1 by omega]; exact h1
    · rw [List.getElem?_append_right (by omega), show i * 3 + 2 - xs.length = (i - A.length) * 3 + 2 by omega]; exact h2
/-- The cells of hits in a row. -/
theorem HoldFd.news {w : World} {a : Option Addr} {L : List Fd} (h : HoldFd w a L) (hne : L ≠ []) : ∃ b off ys, a = some ⟨b, off, none⟩ ∧ ys.length = L.length * 3 ∧ (∀ j u, ys[j]? = some u → w.cell? ((⟨b, off, none⟩ : Addr).add j) = some u) ∧ (∀ u ∈ ys, u.oneCell' = true) ∧ CelF ys L := by
  rcases h with h | ⟨b, off, ha, hbl, h⟩
  · exact absurd h hne
  · have hc : ∀ j, j < L.length * 3 → ∃ u, w.cell? ⟨b, off + j, none⟩ = some u ∧ u.oneCell' = true := fun j hj => by
      obtain ⟨h0, h1, ka, kc, h2, _⟩ := h (j / 3) (by omega)
      rcases (show j % 3 = 0 ∨ j % 3 = 1 ∨ j % 3 = 2 by omega) with e | e | e
      · exact ⟨_, by rw [show off + j = off + j / 3 * 3 by omega]; exact h0, rfl⟩
      · exact ⟨_, by rw [show off + j = off + j / 3 * 3 + 1 by omega]; exact h1, rfl⟩
      · exact ⟨_, by rw [show off + j = off + j / 3 * 3 + 2 by omega]; exact h2, rfl⟩
    refine ⟨b, off, (List.range (L.length * 3)).map fun j => (w.cell? ⟨b, off + j, none⟩).getD undef, ha, by simp, fun j u hj => ?_, fun u hu => ?_, fun i hi => ?_⟩
    · rw [List.getElem?_map] at hj
      by_cases hj2 : j < L.length * 3
      · rw [List.getElem?_range hj2] at hj
        obtain ⟨v, hv, _⟩ := hc j hj2
        simp only [Option.map_some, Option.some.injEq, hv, Option.getD_some] at hj
        rw [Go.WideShapes.add_plain, hv, hj]
      · rw [List.getElem?_eq_none (by simp; omega)] at hj
        cases hj
    · obtain ⟨j, hj, rfl⟩ := List.mem_map.1 hu
      obtain ⟨v, hv, h1⟩ := hc j (List.mem_range.1 hj)
      rw [hv]; exact h1
    · obtain ⟨h0, h1, ka, kc, h2, _⟩ := h i hi
      refine ⟨ka, kc, ?_, ?_, ?_⟩
      · rw [List.getElem?_map, List.getElem?_range (by omega)]; simp [h0]
      · rw [List.getElem?_map, List.getElem?_range (by omega)]; simp [← Nat.add_assoc, h1]
      · rw [List.getElem?_map, List.getElem?_range (by omega)]; simp [← Nat.add_assoc, h2]
/-- append of hits, be they none. -/
theorem wpList_append_fd {w : World} {ops : Array Oper} {rest : List Oper} {o : Oper} {a : Act} {Q : Exit → Act → World → Prop} (hgd : o.guard = none) (s x : Operand)
    (ho : o.op = .call { callee := .builtin .append, args := #[s, x], argTypes := #[26, 26] })
    (base : Nat) (v : Value) (n : Nat) (xs : List Value) (hs : a.eval s = v) (hown : w.ownsRow base 47 3 v n xs)
    (ra : Option Addr) (rc : Nat) (L : List Fd) (hx : a.eval x = .slice ra L.length rc) (hL : HoldFd w ra L) (h63 : n + L.length ≤ 2000000) (hbase : base ≤ w.heap.size)
    (h : ∀ v' w' ys, w'.ownsRow base 47 3 v' (n + L.length) (xs ++ ys) → CelF ys L → w.grownBy w' v.ownBlock → wpList Try.prog ops Q rest (a.put o.dst v') w') : wpList Try.prog ops Q (o :: rest) a w := by
  obtain ⟨i0, hi0, hz0, hz1, hz2⟩ := info_parts Try.infoFd
  by_cases hne : L = []
  · subst hne
    have hr : ∀ ty, (Builtin.append_ #[26, 26] ty #[v, .slice ra 0 rc]).run Try.prog w = .ok v w := by
      intro ty
      rcases hown.2 with ⟨rfl, h0⟩ | ⟨g, cap, cur, rfl, _, _, hc, _⟩
      · cases ra <;> simp [Builtin.append_, run_underlying Try.underlying26, sizeOf, typeInfo, hi0, Builtin.lenOf, Builtin.firstCells, loadCells, loadCellsFrom, storeCells]
      · cases ra <;> simp [Builtin.append_, run_underlying Try.underlying26, sizeOf, typeInfo, hi0, Builtin.lenOf, Builtin.firstCells, loadCells, loadCellsFrom, storeCells, hc]
    refine wpList_plain hgd fun K hK => ?_
    unfold Oper.wp execOp
    simp only [List.length_nil] at hx
    simp only [ho, resolve, invoke, builtin, Sem.run_bind, Sem.run_pure, Result.andThen_ok, List.map_toArray, List.map_cons, List.map_nil, hs, hx, hr]
    exact hK _ _ (h v w [] (by simpa using hown) (fun i hi => absurd hi (by simp)) (grown_refl _ _))
  · obtain ⟨b, off, ys, rfl, h1, h2, h3, h4⟩ := hL.news hne
    exact wpList_append_own w hgd s x 26 ho base 47 i0 _ 3 48 Try.underlying26 hi0 hz0 hz1 hz2 rfl (by decide) v n xs hs hown ⟨b, off, none⟩ L.length rc ys hx h1 h2 h3 (by unfold maxLen; omega) (by omega) hbase fun v' w' k1 k2 _ => h v' w' ys k1 h4 k2
theorem flat_take (L : List (List Fd)) (i : Nat) (hi : i < L.length) : (L.take (i + 1)).flatten = (L.take i).flatten ++ L.getD i [] := by
  rw [List.take_succ_eq_append_getElem hi, List.flatten_append]
  simp [hi]
theorem flat_le {L : List (List Fd)} (h16 : L.length ≤ 16) (hln : ∀ i, i < L.length → (L.getD i []).length ≤ 4096) : ∀ i, i ≤ L.length → (L.take i).flatten.length ≤ i * 4096
  | 0, _ => by simp
  | i + 1, h => by
    have := flat_le h16 hln i (by omega)
    rw [flat_take L i (by omega), List.length_append]
    have := hln i (by omega)
    omega
def fsum (L : List (List Fd)) (i : Nat) : Nat := (L.take i).flatten.length
theorem growFd_any (w : World) (S : Nat) (hS : S ≤ 100000) :
    Calls Try.prog 56 #[.slice none 0 0, .int .i64 (S : Int)] w fun e w' => ∃ v, e = .returned v ∧ w'.ownsRow w.heap.size 47 3 v 0 [] ∧ Below w.heap.size w w' := by
  obtain ⟨i0, hi0, hz0, hz1, hz2⟩ := info_parts Try.infoFd
  by_cases h : S = 0
  · subst h
    refine (Any8.slices_Grow_room Try.laysGrow none 0 0 0 w (by omega) (by omega) (by omega) (by omega)).mono ?_
    rintro e w' ⟨rfl, rfl⟩
    exact ⟨_, rfl, World.ownsRow_nil _ _ _ _, Below.refl _ _⟩
  · refine (Any8.slices_Grow_grow Try.laysGrow i0 _ hi0 hz0 (by omega) none 0 0 S [] w (by omega) (by omega) (by rw [hz2]; omega) (by omega) (by simp) (fun _ => rfl) (fun a ha => by cases ha)).mono ?_
    rintro e w' ⟨rfl, rfl⟩
    refine ⟨_, rfl, ⟨rfl, Or.inr ⟨w.heap.size, _, _, rfl, Nat.le_refl _, heap_alloc_new w.drew _, Nat.zero_le _, grownCap_le_maxLen _ _ _ _ (by unfold maxLen; omega), ?_, by simp⟩⟩, (Below.refl _ _).drew.alloc (Nat.le_refl _) _⟩
    have hge := grownCap_ge w (0 + S) 0 (Try.laysGrow_ren.t 25)
    rw [Array.size_append, Array.size_append, size_zeroCells, size_zeroCells]
    simp only [List.size_toArray, List.length_nil]
    have e3 : (Value.agg #[.string ⟨#[]⟩, .int .i64 0, .slice none 0 0]).cells.size = 3 := rfl
    rw [e3]
    omega
def CatOut (L : List (List Fd)) (w : World) (e : Ending) (w' : World) : Prop := ∃ v xs, e = .returned v ∧ w'.ownsRow w.heap.size 47 3 v L.flatten.length xs ∧ CelF xs L.flatten ∧ Below w.heap.size w w'
set_option maxHeartbeats 8000000 in
theorem concat_any (w : World) (la : Option Addr) (lc : Nat) (L : List (List Fd)) (hL : HoldFF w la L) (h16 : L.length ≤ 16) (hln : ∀ i, i < L.length → (L.getD i []).length ≤ 4096) :
    Calls Try.prog 40 #[.slice la L.length lc] w (CatOut L w) := by
  have HL := hidd hL
  have HFl := hidd (flat_le h16 hln)
  obtain ⟨N, hN⟩ : ∃ N, L.length = N := ⟨_, rfl⟩
  have HN := hidd hN
  rw [hN] at h16 ⊢
  clear hL hln hN
  go_enter Try.func40, Try.ntmps40
  go_wp2_with fail
  go_loopw [3, 11] (fun sv iv wx => ∃ i : Nat, i ≤ N ∧ iv = .int .i64 (i : Int) ∧ sv = .int .i64 (fsum L i : Int) ∧ wx = w) (fun _ iv _ => N - (intOf iv).toNat)
  case atStart => exact ⟨0, by omega, rfl, by simp [fsum], rfl⟩
  case round =>
    obtain ⟨i, hi, rfl, rfl, hww⟩ := hrel
    obtain rfl := hww.symm
    by_cases hin : i < N
    · have hiz : (i : Int) < (N : Int) := by omega
      obtain ⟨b, off, rfl, hbl, ra, rc, hcell, hrc, hfd⟩ : ∃ b off, la = some ⟨b, off, none⟩ ∧ b < w.heap.size ∧ ∃ ra rc, w.cell? ⟨b, off + i, none⟩ = some (.slice ra (L.getD i []).length rc) ∧ (L.getD i []).length ≤ rc ∧ HoldFd w ra (L.getD i []) := by
        rcases HL.out with h | ⟨b, off, ha, hbl, h⟩
        · have := HN.out; rw [h] at this; simp at this; omega
        · exact ⟨b, off, ha, hbl, h i (by rw [HN.out]; exact hin)⟩
      have hle : fsum L (i + 1) ≤ (i + 1) * 4096 := HFl.out (i + 1) (by rw [HN.out]; omega)
      have hft := flat_take L i (by rw [HN.out]; exact hin)
      have hsum : fsum L (i + 1) = fsum L i + (L.getD i []).length := by unfold fsum; rw [hft, List.length_append]
      have HSum := hidd hsum
      rw [hsum] at hle
      clear hft hsum hfd hrc
      generalize fsum L i = S at *
      generalize (L.getD i []).length = n at *
      have hneg : ¬ ((S : Int) + (n : Int) < 0) := by omega
      go_wp2_with fail
      go_roundw
      case rel => exact ⟨i + 1, by omega, by go_num, by rw [HSum.out]; simp, by first | trivial | rfl⟩
      case measure => simp [intOf]; omega
    · have hiz : ¬ (i : Int) < (N : Int) := by omega
      have hiN : i = N := by omega
      have HT : Hid (fsum L i ≤ 100000) := by have := HFl.out i (by rw [HN.out]; omega); show (L.take i).flatten.length ≤ 100000; omega
      clear hiN
      generalize fsum L i = S at *
      go_wp2_with fail
      refine (growFd_any _ S HT.out).mono ?_
      rintro e w1 ⟨v1, rfl, hown1, hb1⟩
      have HO1 := hidd hown1
      have HB1 := hidd hb1
      clear hown1 hb1
      obtain ⟨a1, c1, rfl⟩ : ∃ a c, v1 = .slice a 0 c := by
        rcases HO1.out.2 with ⟨h1, h2⟩ | ⟨g, cap, cur, h1, _⟩
        · exact ⟨none, 0, h1⟩
        · exact ⟨_, _, h1⟩
      go_wp2_with fail
      go_loopw [6, 27] (fun vv iv wx => ∃ (i : Nat) (xs : List Value), i ≤ N ∧ iv = .int .i64 (i : Int) ∧ wx.ownsRow w.heap.size 47 3 vv (fsum L i) xs ∧ CelF xs (L.take i).flatten ∧ Below w.heap.size w wx) (fun _ iv _ => N - (intOf iv).toNat)
      case atStart => exact ⟨0, [], by omega, rfl, HO1.out, (fun i hi => absurd hi (by simp)), HB1.out⟩
      case round =>
        obtain ⟨j, xs, hj, rfl, hown, hcel, hbx⟩ := hrel
        have HO := hidd hown
        have HCel := hidd hcel
        have HB := hidd hbx
        clear hcel hbx HO1 HB1
        by_cases hjn : j < N
        · have hjz : (j : Int) < (N : Int) := by omega
          obtain ⟨b, off, rfl, hbl, ra, rc, hcell, hrc, hfd⟩ : ∃ b off, la = some ⟨b, off, none⟩ ∧ b < wr.heap.size ∧ ∃ ra rc, wr.cell? ⟨b, off + j, none⟩ = some (.slice ra (L.getD j []).length rc) ∧ (L.getD j []).length ≤ rc ∧ HoldFd wr ra (L.getD j []) := by
            rcases HL.out.below HB.out with h | ⟨b, off, ha, hbl, h⟩
            · have := HN.out; rw [h] at this; simp at this; omega
            · exact ⟨b, off, ha, hbl, h j (by rw [HN.out]; exact hjn)⟩
          have hft := flat_take L j (by rw [HN.out]; exact hjn)
          have HFt := hidd hft
          have HSum : Hid (fsum L (j + 1) = fsum L j + (L.getD j []).length) := by show _ = _; unfold fsum; rw [hft, List.length_append]
          have hle : fsum L (j + 1) ≤ (j + 1) * 4096 := HFl.out (j + 1) (by rw [HN.out]; omega)
          have HXl : Hid (xs.length = fsum L j * 3) := HO.out.1
          have hle2 : fsum L j + (L.getD j []).length ≤ 2000000 := by have := HSum.out; omega
          have HFd := hidd hfd
          have HLe := hidd hle2
          have HSz : Hid (w.heap.size ≤ wr.heap.size) := HB.out.size
          obtain ⟨n, hn⟩ : ∃ n, (L.getD j []).length = n := ⟨_, rfl⟩
          have HNn := hidd hn
          rw [hn] at hcell
          clear hft hle hle2 hfd hrc hn
          obtain ⟨av, nv, cv, rfl⟩ : ∃ a n c, u6 = .slice a n c := by
            rcases HO.out.2 with ⟨h1, h2⟩ | ⟨g, cap, cur, h1, _⟩
            · exact ⟨none, 0, 0, h1⟩
            · exact ⟨_, _, _, h1⟩
          clear hown
          go_wp2_with (at_builtin; refine wpList_append_fd rfl _ _ rfl w.heap.size _ _ _ rfl HO.out ra rc (L.getD j []) (by rw [HNn.out]; rfl) HFd.out HLe.out HSz.out ?_)
          intro v' w' ys k1 k2 k3
          have HK1 : Hid (w'.ownsRow w.heap.size 47 3 v' (fsum L (j + 1)) (xs ++ ys)) := by rw [HSum.out]; exact k1
          have HK2 : Hid (CelF (xs ++ ys) (L.take (j + 1)).flatten) := by rw [HFt.out]; exact HCel.out.append HXl.out k2
          have HK3 : Hid (Below w.heap.size w w') := HB.out.grown k3 HSz.out (fun q hq => (HO.out.lt q hq).1)
          clear k1 k2 k3
          go_wp2_with fail
          go_roundw
          case rel => exact ⟨j + 1, xs ++ ys, by omega, by go_num, HK1.out, HK2.out, HK3.out⟩
          case measure => simp [intOf]; omega
        · have hjz : ¬ (j : Int) < (N : Int) := by omega
          have HF : Hid ((L.take j).flatten = L.flatten) := by show _ = _; rw [List.take_of_length_le (by rw [HN.out]; omega)]
          clear hown
          go_wp2_with fail
          go_ret
          exact ⟨_, xs, rfl, by have h := HO.out; unfold fsum at h; rw [HF.out] at h; exact h, by have h := HCel.out; rw [HF.out] at h; exact h, HB.out⟩
end Go.Proofs.Ytcnjmjcbhelkhaa

namespace Go.Proofs.Ytcnjmjcbhelkhaa
open Go Go.RowKit Go.Shelf
set_option linter.unusedVariables false
set_option maxRecDepth 100000
set_option linter.unusedSimpArgs false

/-! A list in order, by the program. -/
theorem HoldFd.at {w : World} {a : Option Addr} {L : List Fd} (h : HoldFd w a L) {i : Nat} (hi : i < L.length) : ∃ b off, a = some ⟨b, off, none⟩ ∧ b < w.heap.size ∧ w.cell? ⟨b, off + i * 3, none⟩ = some (.string (bs (L.getD i fd0).1)) ∧ w.cell? ⟨b, off + i * 3 + 1, none⟩ = some (.int .i64 (L.getD i fd0).2.1) ∧ ∃ ka kc, w.cell? ⟨b, off + i * 3 + 2, none⟩ = some (.slice ka (L.getD i fd0).2.2.length kc) ∧ HoldZ w ka (L.getD i fd0).2.2 := by
  rcases h with h | ⟨b, off, ha, hbl, h⟩
  · rw [h] at hi; simp at hi
  · exact ⟨b, off, ha, hbl, h i hi⟩
theorem badS_no {ds : List Bool} {l : List Fd} (h : ∀ j, j + 1 < l.length → ¬ fcM ds (l.getD (j + 1) fd0) (l.getD j fd0) < 0) : badS ds l = false := by
  unfold badS
  rw [List.any_eq_false]
  intro i hi
  rw [List.mem_range] at hi
  simp only [decide_eq_true_eq]
  exact h i (by omega)
theorem badS_yes {ds : List Bool} {l : List Fd} {j : Nat} (hj : j + 1 < l.length) (h : fcM ds (l.getD (j + 1) fd0) (l.getD j fd0) < 0) : badS ds l = true := by
  unfold badS
  rw [List.any_eq_true]
  exact ⟨j, List.mem_range.2 (by omega), by simp only [decide_eq_true_eq]; exact h⟩
set_option maxHeartbeats 8000000 in
theorem isSorted_any (w : World) (ra : Option Addr) (rc : Nat) (l : List Fd) (ks : List (Tx × Bool)) (sa : Option Addr) (sc : Nat) (hl : HoldFd w ra l) (hn : l.length ≤ 1048576) (hk : ks.length ≤ 4) (hS : HoldSK w sa ks) (hkl : ∀ i, i < l.length → (l.getD i fd0).2.2.length = ks.length) :
    Calls Try.prog 35 #[.slice ra l.length rc, .func (.func 36) #[.slice sa ks.length sc] #[]] w fun e w' => e = .returned (.bool (!badS (dsOf ks) l)) ∧ Below w.heap.size w w' := by
  have HL := hidd hl
  have HS := hidd hS
  have HKl := hidd hkl
  have HK := hidd hk
  obtain ⟨N, hN⟩ : ∃ N, l.length = N := ⟨_, rfl⟩
  have HN := hidd hN
  rw [hN] at hn ⊢
  obtain ⟨kn, hkn⟩ : ∃ n, ks.length = n := ⟨_, rfl⟩
  have HKn := hidd hkn
  rw [hkn]
  clear hl hS hkl hk hN hkn
  go_enter Try.func35, Try.ntmps35
  have hw0 : IntKind.i64.wrap ((N : Int) - 1) = (N : Int) - 1 := by rw [IntKind.wrap_i64]; omega
  go_wp2_with fail
  go_loopw [5] (fun iv wx => ∃ z : Int, iv = .int .i64 z ∧ z ≤ (N : Int) - 1 ∧ -1 ≤ z ∧ (∀ j : Nat, z ≤ (j : Int) → j + 1 < N → ¬ fcM (dsOf ks) (l.getD (j + 1) fd0) (l.getD j fd0) < 0) ∧ Below w.heap.size w wx) (fun iv _ => (intOf iv).toNat)
  case atStart => exact ⟨_, rfl, by omega, by omega, fun j h1 h2 => by omega, Below.refl _ _⟩
  case round =>
    obtain ⟨z, rfl, hz1, hz2, hno, hbx⟩ := hrel
    have HNo := hidd hno
    have HB := hidd hbx
    clear hno hbx
    by_cases hlt : z > 0
    · obtain ⟨K, rfl⟩ : ∃ K : Nat, z = (K : Int) := ⟨z.toNat, by omega⟩
      obtain ⟨i, hiK⟩ : ∃ i, i + 1 = K := ⟨K - 1, by omega⟩
      have HIK := hidd hiK
      have hiN : K < N := by omega
      obtain ⟨b, off, rfl, hbl, x0, x1, ka, kc, x2, x3⟩ := (HL.out.below HB.out).at (i := K) (by rw [HN.out]; omega)
      obtain ⟨b', off', he, _, y0, y1, ja, jc, y2, y3⟩ := (HL.out.below HB.out).at (i := i) (by rw [HN.out]; omega)
      injection he with he
      injection he with e1 e2
      subst e1 e2
      have HC : Hid (∀ W, Below wr.heap.size wr W → Calls Try.prog 36 #[.slice sa kn sc, .agg #[.string (bs (l.getD K fd0).1), .int .i64 (l.getD K fd0).2.1, .slice ka (l.getD K fd0).2.2.length kc], .agg #[.string (bs (l.getD i fd0).1), .int .i64 (l.getD i fd0).2.1, .slice ja (l.getD i fd0).2.2.length jc]] W fun e w' => e = .returned (.int .i64 (fcM (dsOf ks) (l.getD K fd0) (l.getD i fd0))) ∧ Below W.heap.size W w') := fun W hW => by
        have hb2 := HB.out.trans (hW.mono HB.out.size)
        rw [← HKn.out]
        exact ordCmp_any W sa sc ks _ _ ka ja kc jc HK.out (HS.out.below hb2) (x3.below hW) (y3.below hW) (HKl.out _ (by rw [HN.out]; omega)) (HKl.out _ (by rw [HN.out]; omega))
      have HYes : Hid (fcM (dsOf ks) (l.getD K fd0) (l.getD i fd0) < 0 → badS (dsOf ks) l = true) := fun h => badS_yes (j := i) (by rw [HN.out]; omega) (by rw [hiK]; exact h)
      have HNx : Hid (¬ fcM (dsOf ks) (l.getD K fd0) (l.getD i fd0) < 0 → ∀ j : Nat, (i : Int) ≤ (j : Int) → j + 1 < N → ¬ fcM (dsOf ks) (l.getD (j + 1) fd0) (l.getD j fd0) < 0) := fun h j h1 h2 => by
        by_cases e : j = i
        · subst e; rw [hiK]; exact h
        · exact HNo.out j (by omega) h2
      clear x3 y3 HNo
      generalize fcM (dsOf ks) (l.getD K fd0) (l.getD i fd0) = c at *
      generalize bs (l.getD K fd0).1 = p0 at *
      generalize bs (l.getD i fd0).1 = q0 at *
      generalize (l.getD K fd0).2.1 = p1 at *
      generalize (l.getD i fd0).2.1 = q1 at *
      generalize (l.getD K fd0).2.2.length = p2 at *
      generalize (l.getD i fd0).2.2.length = q2 at *
      have hw1 : IntKind.i64.wrap (i : Int) = (i : Int) := by rw [IntKind.wrap_i64]; omega
      have hw2 : wrap64 (i : Int) = (i : Int) := by unfold wrap64; omega
      have hi1 : (K : Int) - 1 = (i : Int) := by omega
      have hKz : (K : Int) < (N : Int) := by omega
      have hiz : (i : Int) < (N : Int) := by omega
      have hpos : (K : Int) > 0 := by omega
      clear hiK
      clear hlt hz1 hz2
      go_wp2_with fail
      go_region_held3 (fun W => W.cell? ⟨b, off + K * 3, none⟩ = some (.string p0) ∧ W.cell? ⟨b, off + K * 3 + 1, none⟩ = some (.int .i64 p1) ∧ W.cell? ⟨b, off + K * 3 + 2, none⟩ = some (.slice ka p2 kc) ∧ W.cell? ⟨b, off + i * 3, none⟩ = some (.string q0) ∧ W.cell? ⟨b, off + i * 3 + 1, none⟩ = some (.int .i64 q1) ∧ W.cell? ⟨b, off + i * 3 + 2, none⟩ = some (.slice ja q2 jc))
        (first | exact ⟨x0, x1, x2, y0, y1, y2⟩ | exact ⟨(hb.cell (p := ⟨b, off + K * 3, none⟩) (cell_lt x0)).trans x0, (hb.cell (p := ⟨b, off + K * 3 + 1, none⟩) (cell_lt x1)).trans x1, (hb.cell (p := ⟨b, off + K * 3 + 2, none⟩) (cell_lt x2)).trans x2, (hb.cell (p := ⟨b, off + i * 3, none⟩) (cell_lt y0)).trans y0, (hb.cell (p := ⟨b, off + i * 3 + 1, none⟩) (cell_lt y1)).trans y1, (hb.cell (p := ⟨b, off + i * 3 + 2, none⟩) (cell_lt y2)).trans y2⟩ | go_keep)
        ((go_at_call 36; refine (HC.out _ (by first | exact (Below.refl _ _).drew | exact Below.refl _ _)).mono ?_; rintro e w' ⟨rfl, hb⟩))
      have HB2 : Hid (Below w.heap.size w w') := by first | exact HB.out.trans (hb.mono HB.out.size) | exact (HB.out.drew).trans (hb.mono HB.out.size)
      clear hb x0 x1 x2 y0 y1 y2
      by_cases hc0 : c < 0
      · have HR : Hid (badS (dsOf ks) l = true) := HYes.out hc0
        have hcb : decide (c < 0) = true := by simp [hc0]
        go_wp2_with fail
        go_ret
        exact ⟨by rw [HR.out]; rfl, HB2.out⟩
      · have HNy := hidd (HNx.out (by omega))
        have hcb : decide (c < 0) = false := by simp; omega
        go_wp2_with fail
        go_roundw
        case rel => exact ⟨(i : Int), by first | rfl | go_num, by have := HIK.out; omega, by omega, (fun j h1 h2 => by have := HNy.out j h1 h2; omega), HB2.out⟩
        case measure => have := HIK.out; simp [intOf]; omega
    · have HR : Hid (badS (dsOf ks) l = false) := badS_no fun j hj => HNo.out j (by omega) (by rw [HN.out] at hj; exact hj)
      go_wp2_with fail
      go_ret
      exact ⟨by rw [HR.out]; rfl, HB.out⟩
theorem isUnsorted_any (w : World) (B : Nat) (ra : Option Addr) (rc : Nat) (l : List Fd) (ks : List (Tx × Bool)) (sa : Option Addr) (sc : Nat) (hB : w.cell? ⟨B, 0, none⟩ = some (.slice sa ks.length sc)) (hl : HoldFd w ra l) (hn : l.length ≤ 1048576) (hk : ks.length ≤ 4) (hS : HoldSK w sa ks) (hkl : ∀ i, i < l.length → (l.getD i fd0).2.2.length = ks.length) :
    Calls Try.prog 34 #[.slice ra l.length rc, .pointer (some ⟨B, 0, none⟩)] w fun e w' => e = .returned (.bool (badS (dsOf ks) l)) ∧ Below w.heap.size w w' := by
  have HI := hidd (isSorted_any w ra rc l ks sa sc hl hn hk hS hkl)
  clear hl hS hkl
  generalize badS (dsOf ks) l = r at *
  go_enter Try.func34, Try.ntmps34
  go_wp2_with fail
  refine HI.out.mono ?_
  rintro e w' ⟨rfl, hb⟩
  have HB := hidd hb
  clear hb HI
  cases r with
  | true =>
    go_wp2_with fail
    go_ret
    exact ⟨rfl, HB.out⟩
  | false =>
    go_wp2_with fail
    go_ret
    exact ⟨rfl, HB.out⟩
end Go.Proofs.Ytcnjmjcbhelkhaa

namespace Go.Proofs.Ytcnjmjcbhelkhaa
open Go Go.RowKit
set_option linter.unusedVariables false

set_option maxHeartbeats 400000 in
theorem within_any (r lo hi : Int) (w : World) : Calls Try.prog 38 #[.int .i64 r, .int .i64 lo, .int .i64 hi] w fun e w' => e = .returned (.bool (decide (lo ≤ r) && decide (r ≤ hi))) ∧ w' = w := by
  by_cases h : lo ≤ r
  · have HB : Hid (decide (lo ≤ r) = true) := decide_eq_true h
    go_enter Try.func38, Try.ntmps38
    go_wp2
    go_ret
    rw [HB.out, Bool.true_and]
    exact ⟨rfl, rfl⟩
  · have HB : Hid (decide (lo ≤ r) = false) := decide_eq_false h
    go_enter Try.func38, Try.ntmps38
    go_wp2
    go_ret
    rw [HB.out, Bool.false_and]
    exact ⟨rfl, rfl⟩
end Go.Proofs.Ytcnjmjcbhelkhaa
