import Derived.Test.YtcnjmjcbhelkhaaMergeHitsJ19
import Derived.Deep.RegionHeld3
namespace Go.Proofs.Ytcnjmjcbhelkhaa
open Go Go.RowKit
set_option linter.unusedVariables false
set_option linter.unusedSimpArgs false
set_option maxRecDepth 100000

/-! The law's marks over an answer. -/
theorem own_tyne {w : World} {base base' e e' sz sz' n n' : Nat} {v v' : Value} {xs xs' : List Value} (h : w.ownsRow base e sz v n xs) (h' : w.ownsRow base' e' sz' v' n' xs') (hne : e ≠ e') : v.ownBlock = none ∨ v.ownBlock ≠ v'.ownBlock := by
  cases hv : v.ownBlock with
  | none => exact Or.inl rfl
  | some b =>
    refine Or.inr fun e2 => ?_
    obtain ⟨_, cu, hcu⟩ := own_blk h hv
    obtain ⟨_, cu', hcu'⟩ := own_blk h' e2.symm
    exact blk_ne hcu hcu' hne rfl
/-- An answer of which the first i hits are written over. -/
structure MkF (w : World) (lo hi : Nat) (va : Value) (ls : List Nat) (xs : List Value) (k i : Nat) : Prop where
  row : w.ownsRow lo 47 3 va ls.length xs
  top : ∀ b, va.ownBlock = some b → b < hi
  val : ∀ j, j < ls.length → ∃ vn N, xs[j * 3 + 2]? = some vn ∧ w.ownsRow lo 3 1 vn (ls.getD j 0) N ∧
    (j < i → xs[j * 3]? = some (.string (mkText (kF ls k j))) ∧ xs[j * 3 + 1]? = some (.int .i64 ((kF ls k j : Nat) + 1 : Int)) ∧ N = marks ((kF ls k j : Nat) + 2 : Int) (ls.getD j 0))
  lie : ∀ j b, j < ls.length → LiesF xs j b → lo ≤ b ∧ b < hi
  dis : ∀ i j b, i < j → j < ls.length → LiesF xs i b → ¬ LiesF xs j b
def lensF (F : List Fd) : List Nat := F.map fun f => f.2.2.length
theorem lensF_at (F : List Fd) (j : Nat) (hj : j < F.length) : (lensF F).getD j 0 = (F.getD j fd0).2.2.length := by
  simp [lensF, List.getD_eq_getElem?_getD, hj]
theorem AnsF.mks {w : World} {lo hi : Nat} {va : Value} {F : List Fd} {xs : List Value} (h : AnsF w lo hi va F xs) (k : Nat) : MkF w lo hi va (lensF F) xs k 0 := by
  have hl : (lensF F).length = F.length := by simp [lensF]
  refine ⟨by rw [hl]; exact h.row, h.top, fun j hj => ?_, fun j b hj => h.lie j b (by omega), fun i j b hij hj => h.dis i j b hij (by omega)⟩
  rw [hl] at hj
  obtain ⟨a, n, c, h0, h1, h2, h3⟩ := h.val j hj
  rw [lensF_at F j hj]
  exact ⟨_, _, h2, h3, fun h => absurd h (by omega)⟩
theorem MkF.keep {w w' : World} {lo hi : Nat} {va : Value} {ls : List Nat} {xs : List Value} {k i : Nat} (h : MkF w lo hi va ls xs k i) (hk : ∀ b, lo ≤ b → b < hi → w'.heap[b]? = w.heap[b]?) : MkF w' lo hi va ls xs k i := by
  refine ⟨own_congr h.row fun b hb => hk b (h.row.lt b hb).1 (h.top b hb), h.top, fun j hj => ?_, h.lie, h.dis⟩
  obtain ⟨vn, N, h1, h2, h3⟩ := h.val j hj
  refine ⟨vn, N, h1, own_congr h2 fun b hb => ?_, h3⟩
  have := h.lie j b hj ⟨vn, h1, hb⟩
  exact hk b this.1 this.2
theorem MkF.below {w w' : World} {lo hi : Nat} {va : Value} {ls : List Nat} {xs : List Value} {k i : Nat} (h : MkF w lo hi va ls xs k i) (hhi : hi ≤ w.heap.size) (hb : Below w.heap.size w w') : MkF w' lo hi va ls xs k i := h.keep fun b _ h2 => hb.block b (by omega)
/-- One hit more written over. -/
theorem MkF.step {w w3 : World} {lo hi g cap : Nat} {ls : List Nat} {xs : List Value} {k i : Nat} {vn : Value} (h : MkF w lo hi (.slice (some ⟨g, 0, none⟩) ls.length cap) ls xs k i) (hi' : i < ls.length) (hn : xs[i * 3 + 2]? = some vn)
    (hg3 : ((w.setCell ⟨g, i * 3, none⟩ (.string (mkText (kF ls k i)))).setCell ⟨g, i * 3 + 1, none⟩ (.int .i64 ((kF ls k i : Nat) + 1 : Int))).grownBy w3 vn.ownBlock) (ho3 : w3.ownsRow lo 3 1 vn (ls.getD i 0) (marks ((kF ls k i : Nat) + 2 : Int) (ls.getD i 0))) :
    MkF w3 lo hi (.slice (some ⟨g, 0, none⟩) ls.length cap) ls ((xs.set (i * 3) (.string (mkText (kF ls k i)))).set (i * 3 + 1) (.int .i64 ((kF ls k i : Nat) + 1 : Int))) k (i + 1) ∧ ∀ b, (b < lo ∨ hi ≤ b) → b < w.heap.size → w3.heap[b]? = w.heap[b]? := by
  have hxl := h.row.1
  obtain ⟨_, Ni, q2, q4, _⟩ := h.val i hi'
  rw [hn] at q2
  cases q2
  have hgx : lo ≤ g ∧ g < hi := ⟨(h.row.lt g rfl).1, h.top g rfl⟩
  have hr1 := ((h.row.stored (i * 3) (.string (mkText (kF ls k i)))).1.stored (i * 3 + 1) (.int .i64 ((kF ls k i : Nat) + 1 : Int))).1
  obtain ⟨W1, hW1⟩ : ∃ V, (w.setCell ⟨g, i * 3, none⟩ (.string (mkText (kF ls k i)))).setCell ⟨g, i * 3 + 1, none⟩ (.int .i64 ((kF ls k i : Nat) + 1 : Int)) = V := ⟨_, rfl⟩
  have oth : ∀ b, b ≠ g → W1.heap[b]? = w.heap[b]? := fun b hb => by rw [← hW1, heap_set_other _ _ _ _ b hb, heap_set_other _ _ _ _ b hb]
  have hsz : W1.heap.size = w.heap.size := by rw [← hW1]; simp
  rw [hW1] at hg3
  have hr1' : W1.ownsRow lo 47 3 (.slice (some ⟨g, 0, none⟩) ls.length cap) ls.length ((xs.set (i * 3) (.string (mkText (kF ls k i)))).set (i * 3 + 1) (.int .i64 ((kF ls k i : Nat) + 1 : Int))) := by rw [← hW1]; exact hr1
  have tg : ∀ {e sz : Nat} {v : Value} {m : Nat} {ys : List Value}, w.ownsRow lo e sz v m ys → 47 ≠ e → W1.ownsRow lo e sz v m ys := fun {e sz v m ys} hv hne => own_congr hv fun b hb => oth b (fun e' => by
    subst e'
    rcases own_tyne h.row hv hne with e2 | e2
    · cases e2
    · exact e2 hb.symm)
  have n1 := tg q4 (by decide)
  have hr3 := hr1'.kept hg3 (own_tyne hr1' n1 (by decide))
  have set1 : ∀ j c, c < 3 → (j ≠ i ∨ c = 2) → ((xs.set (i * 3) (.string (mkText (kF ls k i)))).set (i * 3 + 1) (.int .i64 ((kF ls k i : Nat) + 1 : Int)))[j * 3 + c]? = xs[j * 3 + c]? := fun j c hc hne => by
    rw [List.getElem?_set_ne (by omega), List.getElem?_set_ne (by omega)]
  have lies : ∀ j b, LiesF ((xs.set (i * 3) (.string (mkText (kF ls k i)))).set (i * 3 + 1) (.int .i64 ((kF ls k i : Nat) + 1 : Int))) j b → LiesF xs j b := fun j b ⟨v, hv, hb⟩ => ⟨v, by rw [set1 j 2 (by omega) (Or.inr rfl)] at hv; exact hv, hb⟩
  refine ⟨⟨hr3, h.top, fun j hj => ?_, fun j b hj hl => h.lie j b hj (lies j b hl), fun a j b haj hj h1 h2 => h.dis a j b haj hj (lies a b h1) (lies j b h2)⟩, fun b hb hbl => ?_⟩
  · by_cases e : j = i
    · subst e
      refine ⟨vn, _, (set1 j 2 (by omega) (Or.inr rfl)).trans hn, ho3, fun _ => ⟨?_, ?_, rfl⟩⟩
      · rw [List.getElem?_set_ne (by omega), List.getElem?_set_self (by omega)]
      · rw [List.getElem?_set_self (by rw [List.length_set]; omega)]
    · obtain ⟨un, N, p2, p4, p5⟩ := h.val j hj
      have nv : ∀ v, LiesF xs i v → ¬ LiesF xs j v := fun v hv hw => by
        rcases Nat.lt_or_gt_of_ne e with hlt | hgt
        · exact h.dis j i v hlt hi' hw hv
        · exact h.dis i j v hgt hj hv hw
      have k4 : w3.ownsRow lo 3 1 un (ls.getD j 0) N := (tg p4 (by decide)).kept hg3 (by
          cases hu : un.ownBlock with
          | none => exact Or.inl rfl
          | some b => exact Or.inr fun e2 => nv b ⟨vn, hn, e2.symm⟩ ⟨un, p2, hu⟩)
      refine ⟨un, N, (set1 j 2 (by omega) (Or.inl e)).trans p2, k4, fun hji => ?_⟩
      have r := p5 (by omega)
      exact ⟨(set1 j 0 (by omega) (Or.inl e)).trans r.1, (set1 j 1 (by omega) (Or.inl e)).trans r.2.1, r.2.2⟩
  · have b1 : b ≠ g := by omega
    have b3 : some b ≠ vn.ownBlock := fun e => by have := h.lie i b hi' ⟨vn, hn, e.symm⟩; omega
    rw [hg3.block b (by omega) b3, oth b b1]
/-- What writing an answer over leaves as it was. -/
def MkFr (lo hi : Nat) (w w' : World) : Prop := w'.os = w.os ∧ w'.tape = w.tape ∧ w'.output = w.output ∧ w.heap.size ≤ w'.heap.size ∧ ∀ b, (b < lo ∨ hi ≤ b) → b < w.heap.size → w'.heap[b]? = w.heap[b]?
theorem MkFr.refl (lo hi : Nat) (w : World) : MkFr lo hi w w := ⟨rfl, rfl, rfl, Nat.le_refl _, fun _ _ _ => rfl⟩
theorem MkFr.trans {lo hi : Nat} {a b c : World} (h : MkFr lo hi a b) (k : MkFr lo hi b c) : MkFr lo hi a c := ⟨k.1.trans h.1, k.2.1.trans h.2.1, k.2.2.1.trans h.2.2.1, Nat.le_trans h.2.2.2.1 k.2.2.2.1, fun x hx hl => (k.2.2.2.2 x hx (Nat.lt_of_lt_of_le hl h.2.2.2.1)).trans (h.2.2.2.2 x hx hl)⟩
theorem MkFr.of {lo hi : Nat} {w w' : World} (h : Below w.heap.size w w') : MkFr lo hi w w' := ⟨h.os, h.tape, h.output, h.size, fun b _ hb => h.block b hb⟩
end Go.Proofs.Ytcnjmjcbhelkhaa

namespace Go.Proofs.Ytcnjmjcbhelkhaa
open Go Go.RowKit
set_option linter.unusedVariables false
set_option linter.unusedSimpArgs false
set_option maxRecDepth 100000

/-! The law's marks over an answer: the walks. -/
theorem kF_le (ls : List Nat) (k m : Nat) (hl : ∀ j, ls.getD j 0 ≤ m) : ∀ j, k ≤ kF ls k j ∧ kF ls k j ≤ k + j * (m + 2)
  | 0 => by simp [kF]
  | j + 1 => by
    have h1 := kF_le ls k m hl j
    have h2 := hl j
    simp only [kF]
    rw [Nat.succ_mul]
    omega
set_option maxHeartbeats 4000000 in
theorem markFoundSX (lo hi k : Nat) (va : Value) (ls : List Nat) (xs : List Value) (w : World) (hhi : hi ≤ w.heap.size) (hn : ls.length ≤ 4096) (hl : ∀ j, ls.getD j 0 ≤ 4096) (hk1 : 1 ≤ k) (hk : k ≤ 10) (h : MkF w lo hi va ls xs k 0) :
    Calls Try.prog 15 #[va, .int .i64 (k : Int)] w fun e w' => e = .returned (.int .i64 ((kF ls k ls.length : Nat) : Int)) ∧ (∃ xs', MkF w' lo hi va ls xs' k ls.length) ∧ MkFr lo hi w w' := by
  have HKB : Hid (∀ i, i ≤ 4096 → k ≤ kF ls k i ∧ kF ls k i ≤ 20000000) := fun i hi => by
    have h1 := kF_le ls k 4096 hl i
    have h2 : i * (4096 + 2) ≤ 4096 * (4096 + 2) := Nat.mul_le_mul_right _ hi
    exact ⟨h1.1, by omega⟩
  have HL := hidd hl
  have H := hidd h
  have hform : ∃ a c, va = .slice a ls.length c := by
    rcases h.row.2 with ⟨rfl, h0⟩ | ⟨g, cap, cur, rfl, _⟩
    · exact ⟨none, 0, by rw [h0]⟩
    · exact ⟨_, cap, rfl⟩
  obtain ⟨a, c, rfl⟩ := hform
  clear hl h
  go_enter Try.func15, Try.ntmps15
  go_wp2_with fail
  go_loopw [1, 5] (fun kv iv wr => ∃ (i : Nat) (xs : List Value), i ≤ ls.length ∧ kv = .int .i64 ((kF ls k i : Nat) : Int) ∧ iv = .int .i64 (i : Int) ∧ MkF wr lo hi (.slice a ls.length c) ls xs k i ∧ MkFr lo hi w wr) (fun _ iv _ => ls.length - (intOf iv).toNat)
  case atStart => exact ⟨0, xs, Nat.zero_le _, rfl, rfl, H.out, MkFr.refl _ _ _⟩
  case round =>
    clear H
    obtain ⟨i, xs, hi', rfl, rfl, hm, hf⟩ := hrel
    have HM := hidd hm
    have HF := hidd hf
    have hws := hf.2.2.2.1
    clear hm hf
    by_cases hlt : i < ls.length
    · have hltz : (i : Int) < (ls.length : Int) := by omega
      obtain ⟨g, cur, hb, ha⟩ : ∃ g cur, wr.heap[g]? = some (.cells cur 47) ∧ a = some ⟨g, 0, none⟩ := by
        rcases HM.out.row.2 with ⟨e, h0⟩ | ⟨g, cap, cur, e, _, hg, _⟩
        · omega
        · simp only [Value.slice.injEq] at e
          exact ⟨g, cur, hg, e.1⟩
      subst ha
      obtain ⟨vn, N', q2, q4, _⟩ := HM.out.val i hlt
      have hks := HKB.out i (by omega)
      have hls := HL.out i
      have hxl := HM.out.row.1
      obtain ⟨K, hK⟩ : ∃ K, kF ls k i = K := ⟨_, rfl⟩
      rw [hK] at hks
      try rw [hK]
      have HKe := hidd hK
      clear hb hK q4
      have HMT := hidd (fun W => markText_any (K : Int) W (by omega) (by omega))
      go_wp2_with fail
      refine (HMT.out _).mono ?_
      rintro e w1 ⟨rfl, hb1⟩
      have hm1 := HM.out.keep (w' := w1) fun b _ h2 => hb1.block b (by omega)
      have HM1 := hidd hm1
      have HF1 := hidd (HF.out.trans (MkFr.of hb1))
      have hrow1 := hm1.row
      have hex : ∀ j, j < ls.length * 3 → ∃ u0, w1.cell? ⟨g, j, none⟩ = some u0 := fun j hj => by
        rw [hrow1.cellAt j hj]
        exact ⟨_, List.getElem?_eq_getElem (by omega)⟩
      obtain ⟨u0, c0⟩ := hex (i * 3) (by omega)
      have f0 := hrow1.frozenAt (i * 3)
      obtain ⟨vn', N1, r2, r4, _⟩ := hm1.val i hlt
      rw [q2] at r2
      cases r2
      have s1 := (hm1.row.stored (i * 3) (.string (mkText (K : Int)))).1
      have hl1 : (xs.set (i * 3) (.string (mkText (K : Int)))).length = ls.length * 3 := by rw [List.length_set]; exact hxl
      have hex1 : ∃ u1, (w1.setCell ⟨g, i * 3, none⟩ (.string (mkText (K : Int)))).cell? ⟨g, i * 3 + 1, none⟩ = some u1 := by
        rw [s1.cellAt (i * 3 + 1) (by omega)]
        exact ⟨_, List.getElem?_eq_getElem (by omega)⟩
      obtain ⟨u1, c1⟩ := hex1
      have f1 := s1.frozenAt (i * 3 + 1)
      have s2 := (s1.stored (i * 3 + 1) (.int .i64 ((K : Int) + 1))).1
      have c2 : ((w1.setCell ⟨g, i * 3, none⟩ (.string (mkText (K : Int)))).setCell ⟨g, i * 3 + 1, none⟩ (.int .i64 ((K : Int) + 1))).cell? ⟨g, i * 3 + 2, none⟩ = some vn := by
        rw [s2.cellAt (i * 3 + 2) (by omega), List.getElem?_set_ne (by omega), List.getElem?_set_ne (by omega)]
        exact q2
      have hno : ((w1.setCell ⟨g, i * 3, none⟩ (.string (mkText (K : Int)))).setCell ⟨g, i * 3 + 1, none⟩ (.int .i64 ((K : Int) + 1))).ownsRow lo 3 1 vn (ls.getD i 0) N1 := own_congr r4 fun b hb => by
        have hbg : b ≠ g := fun e' => by
          subst e'
          rcases own_tyne hm1.row r4 (by decide) with e2 | e2
          · cases e2
          · exact e2 hb.symm
        rw [heap_set_other _ _ _ _ b hbg, heap_set_other _ _ _ _ b hbg]
      clear HM HF hb1 HMT hrow1 hex s1 s2 r4 hm1 hl1
      obtain ⟨wt, hwt⟩ : ∃ wt, (w1.setCell ⟨g, i * 3, none⟩ (.string (mkText (K : Int)))).setCell ⟨g, i * 3 + 1, none⟩ (.int .i64 ((K : Int) + 1)) = wt := ⟨_, rfl⟩
      have hzs : wt.heap.size = w1.heap.size := by rw [← hwt]; simp
      have ho9 : wt.os = w1.os ∧ wt.tape = w1.tape ∧ wt.output = w1.output := by rw [← hwt]; exact ⟨rfl, rfl, rfl⟩
      rw [hwt] at c2 hno
      have HNo := hidd hno
      have HWt := hidd hwt
      have HZ := hidd (And.intro hzs ho9)
      clear hno hzs ho9
      dsimp only
      go_upto_region 8 with fail
      clear hwt c0 f0 c1 f1
      obtain ⟨B, hB⟩ : ∃ B, ls.getD i 0 = B := ⟨_, rfl⟩
      rw [hB] at hls HNo
      have HB := hidd hB
      clear hB
      have HMi := hidd (markInts_own lo B vn N1 ((K : Int) + 1 + 1) wt (by omega) (by omega) (by omega) HNo.out)
      go_wp2_with fail
      refine HMi.out.mono ?_
      rintro e w3 ⟨rfl, ho3, hg3⟩
      have hst := HM1.out.step (w3 := w3) hlt q2 (by rw [HKe.out, HWt.out]; exact hg3) (by rw [HKe.out, HB.out, show ((K : Nat) + 2 : Int) = (K : Int) + 1 + 1 by omega]; exact ho3)
      have HST := hidd hst
      have HF3 : Hid (MkFr lo hi w w3) := by
        refine HF1.out.trans ⟨?_, ?_, ?_, ?_, hst.2⟩
        · rw [hg3.os, HZ.out.2.1]
        · rw [hg3.tape, HZ.out.2.2.1]
        · rw [hg3.output, HZ.out.2.2.2]
        · have := hg3.size; have := HZ.out.1; omega
      have HKn : Hid (kF ls k (i + 1) = K + 2 + B) := by show _ = _; simp only [kF]; rw [HKe.out, HB.out]
      clear ho3 hg3 hst c2 HMi HNo HM1 HF1 HZ HWt
      dsimp only
      go_wp2_with fail
      go_roundw
      case rel => exact ⟨i + 1, _, by omega, by rw [HKn.out]; go_num, by go_num, HST.out.1, HF3.out⟩
      case measure => simp [intOf]; omega
    · have hltz : ¬ (i : Int) < (ls.length : Int) := by omega
      obtain rfl : i = ls.length := by omega
      obtain ⟨K, hK⟩ : ∃ K, kF ls k ls.length = K := ⟨_, rfl⟩
      try rw [hK]
      have HKe := hidd hK
      clear hK
      go_wp2_with fail
      go_ret
      rw [HKe.out]
      exact ⟨rfl, ⟨xs, HM.out⟩, HF.out⟩
set_option maxHeartbeats 4000000 in
theorem heldFoundSX (lo hi k : Nat) (va : Value) (ls : List Nat) (xs : List Value) (w : World) (hhi : hi ≤ w.heap.size) (hn : ls.length ≤ 4096) (hl : ∀ j, ls.getD j 0 ≤ 4096) (hk1 : 1 ≤ k) (hk : k ≤ 10) (h : MkF w lo hi va ls xs k ls.length) :
    Calls Try.prog 16 #[va, .int .i64 (k : Int)] w fun e w' => e = .returned (.int .i64 ((kF ls k ls.length : Nat) : Int)) ∧ Below w.heap.size w w' := by
  have HKB : Hid (∀ i, i ≤ 4096 → k ≤ kF ls k i ∧ kF ls k i ≤ 20000000) := fun i hi => by
    have h1 := kF_le ls k 4096 hl i
    have h2 : i * (4096 + 2) ≤ 4096 * (4096 + 2) := Nat.mul_le_mul_right _ hi
    exact ⟨h1.1, by omega⟩
  have HL := hidd hl
  have H := hidd h
  have hform : ∃ a c, va = .slice a ls.length c := by
    rcases h.row.2 with ⟨rfl, h0⟩ | ⟨g, cap, cur, rfl, _⟩
    · exact ⟨none, 0, by rw [h0]⟩
    · exact ⟨_, cap, rfl⟩
  obtain ⟨a, c, rfl⟩ := hform
  clear hl h
  go_enter Try.func16, Try.ntmps16
  go_wp2_with fail
  go_loopw [1, 5] (fun kv iv wr => ∃ (i : Nat), i ≤ ls.length ∧ kv = .int .i64 ((kF ls k i : Nat) : Int) ∧ iv = .int .i64 (i : Int) ∧ Below w.heap.size w wr) (fun _ iv _ => ls.length - (intOf iv).toNat)
  case atStart => exact ⟨0, Nat.zero_le _, rfl, rfl, Below.refl _ _⟩
  case round =>
    obtain ⟨i, hi', rfl, rfl, hbel⟩ := hrel
    have HM := hidd (H.out.below hhi hbel)
    have HB0 := hidd hbel
    have hws := hbel.size
    clear hbel
    by_cases hlt : i < ls.length
    · have hltz : (i : Int) < (ls.length : Int) := by omega
      obtain ⟨g, cur, hb, ha⟩ : ∃ g cur, wr.heap[g]? = some (.cells cur 47) ∧ a = some ⟨g, 0, none⟩ := by
        rcases HM.out.row.2 with ⟨e, h0⟩ | ⟨g, cap, cur, e, _, hg, _⟩
        · omega
        · simp only [Value.slice.injEq] at e
          exact ⟨g, cur, hg, e.1⟩
      subst ha
      obtain ⟨vn, N', q2, q4, q5⟩ := HM.out.val i hlt
      obtain ⟨q0, q1, rfl⟩ := q5 hlt
      have hks := HKB.out i (by omega)
      have hls := HL.out i
      have hrow := HM.out.row
      have hxl := hrow.1
      obtain ⟨K, hK⟩ : ∃ K, kF ls k i = K := ⟨_, rfl⟩
      obtain ⟨B, hB⟩ : ∃ B, ls.getD i 0 = B := ⟨_, rfl⟩
      rw [hK] at hks q0 q1 q4
      rw [hB] at hls q4
      have HKn : Hid (kF ls k (i + 1) = K + 2 + B) := by show _ = _; simp only [kF]; rw [hK, hB]
      try rw [hK]
      have c0 : wr.cell? ⟨g, i * 3, none⟩ = some (.string (mkText (K : Int))) := by rw [hrow.cellAt (i * 3) (by omega)]; exact q0
      have hgl : g < wr.heap.size := (Array.getElem?_eq_some_iff.1 hb).1
      have HC1 : Hid (∀ W, Below wr.heap.size wr W → W.cell? ⟨g, i * 3 + 1, none⟩ = some (.int .i64 ((K : Int) + 1)) ∧ W.cell? ⟨g, i * 3 + 2, none⟩ = some vn) := fun W hW => by
        have hgl : g < wr.heap.size := (Array.getElem?_eq_some_iff.1 hb).1
        refine ⟨(hW.cell (p := ⟨g, i * 3 + 1, none⟩) hgl).trans ?_, (hW.cell (p := ⟨g, i * 3 + 2, none⟩) hgl).trans ?_⟩
        · rw [hrow.cellAt (i * 3 + 1) (by omega)]; exact q1
        · rw [hrow.cellAt (i * 3 + 2) (by omega)]; exact q2
      have HNs : Hid (∀ W, Below wr.heap.size wr W → W.ownsRow lo 3 1 vn B (marks ((K : Int) + 1 + 1) B)) := fun W hW => by
        rw [show (K : Int) + 1 + 1 = ((K : Nat) + 2 : Int) by omega]
        exact own_congr q4 fun b hb' => hW.block b (q4.lt b hb').2
      have HMT := hidd (fun W => markText_any (K : Int) W (by omega) (by omega))
      clear hb hrow hK hB q0 q1 q2 q4 q5 HM
      go_upto_region 4 with fail
      go_cut [19] (fun cv wy => cv = .bool false ∧ Below wr.heap.size wr wy)
      case first =>
        go_region_with (go_at_call 27; refine (HMT.out _).mono ?_; rintro e' w1 ⟨rfl, hb1⟩; have c0' : w1.cell? ⟨g, i * 3, none⟩ = some (.string (mkText (K : Int))) := (hb1.cell (p := ⟨g, i * 3, none⟩) hgl).trans c0)
        all_goals
          go_wp2_with fail
          go_meet
          exact ⟨rfl, (below_drewN (Below.refl _ _) 1).trans (hb1.mono (Nat.le_refl _))⟩
      case rest =>
        obtain ⟨rfl, hby⟩ := hcut
        have HBy := hidd hby
        have c1 := (HC1.out wc hby).1
        have c2 := (HC1.out wc hby).2
        clear hby c0
        have HHi := hidd (heldInts_own lo B vn ((K : Int) + 1 + 1) wc (by omega) (by omega) (by omega) (HNs.out wc HBy.out))
        go_wp2_with fail
        refine HHi.out.mono ?_
        rintro e w3 ⟨rfl, hw3⟩
        obtain rfl := hw3.symm
        have hnn2 : ¬ ((K : Int) + 1 + 1 + (B : Int) < 0) := by omega
        clear hw3 HHi c1 c2
        dsimp only
        go_wp2_with fail
        go_roundw
        case rel => exact ⟨i + 1, by omega, by rw [HKn.out]; go_num, by go_num, HB0.out.trans (HBy.out.mono HB0.out.size)⟩
        case measure => simp [intOf]; omega
    · have hltz : ¬ (i : Int) < (ls.length : Int) := by omega
      obtain rfl : i = ls.length := by omega
      obtain ⟨K, hK⟩ : ∃ K, kF ls k ls.length = K := ⟨_, rfl⟩
      try rw [hK]
      have HKe := hidd hK
      clear hK
      go_wp2_with fail
      go_ret
      rw [HKe.out]
      exact ⟨rfl, HB0.out⟩
end Go.Proofs.Ytcnjmjcbhelkhaa

namespace Go.Proofs.Ytcnjmjcbhelkhaa
open Go Go.RowKit
set_option linter.unusedVariables false
set_option linter.unusedSimpArgs false
set_option maxRecDepth 100000

/-! What the law's sizes give. -/
theorem szR_ok {X : Type} {g : Int → X → Int} {left : Int} {l : List X} (h : 0 ≤ szR g left l) : (l.length : Int) ≤ left ∧ szR g left l = szG g (left - (l.length : Int)) l := by
  unfold szR at h ⊢
  split at h
  · omega
  · rename_i hn; rw [if_neg hn]; exact ⟨by omega, rfl⟩
theorem szFd_ok {a : Int} {f : Fd} (h0 : 0 ≤ a) (h : 0 ≤ szFd a f) : szFd a f = a - (f.1.length : Int) - (f.2.2.length : Int) ∧ (f.1.length : Int) + (f.2.2.length : Int) ≤ a := by
  unfold szFd at h ⊢
  split at h
  · omega
  · rename_i hn
    rw [if_neg hn]
    have h1 := szN_ok (left := a) (n := f.1.length) (by omega)
    have h2 := szN_ok h
    omega
theorem szFs_mem {a : Int} {l : List Fd} (h0 : 0 ≤ a) (h1 : a ≤ 1048576) (h : 0 ≤ szFs a l) : l.length ≤ 1048576 ∧ ∀ j, (l.getD j fd0).1.length ≤ 1048576 ∧ (l.getD j fd0).2.2.length ≤ 1048576 := by
  obtain ⟨h2, h3⟩ := szR_ok h
  refine ⟨by omega, fun j => ?_⟩
  by_cases hj : j < l.length
  · have hm : l.getD j fd0 ∈ l := by rw [List.getD_eq_getElem?_getD, List.getElem?_eq_getElem hj]; exact List.getElem_mem hj
    obtain ⟨b, b0, b1, b2⟩ := szG_mem szFd (fun a x ha => (szFd_le a x ha).2) l (a - (l.length : Int)) (by omega) (by rw [← h3]; exact h) _ hm
    have := szFd_ok b0 b2
    omega
  · rw [List.getD_eq_getElem?_getD, List.getElem?_eq_none (by omega)]
    simp [fd0]
theorem szFF_mem {L : List (List Fd)} (h : 0 ≤ szFF 1048576 L) : L.length ≤ 1048576 ∧ ∀ i, (L.getD i []).length ≤ 1048576 ∧ ∀ j, ((L.getD i []).getD j fd0).1.length ≤ 1048576 ∧ ((L.getD i []).getD j fd0).2.2.length ≤ 1048576 := by
  obtain ⟨h2, h3⟩ := szR_ok h
  refine ⟨by omega, fun i => ?_⟩
  by_cases hi : i < L.length
  · have hm : L.getD i [] ∈ L := by rw [List.getD_eq_getElem?_getD, List.getElem?_eq_getElem hi]; exact List.getElem_mem hi
    obtain ⟨b, b0, b1, b2⟩ := szG_mem szFs (fun a x ha => (szFs_le a x ha).2) L (1048576 - (L.length : Int)) (by omega) (by rw [← h3]; exact h) _ hm
    exact szFs_mem b0 (by omega) b2
  · rw [List.getD_eq_getElem?_getD, List.getElem?_eq_none (by omega)]
    simp [fd0]
theorem szKs_mem {left : Int} {l : List (Tx × Bool)} (h0 : left ≤ 1048576) (h : 0 ≤ szKs left l) : l.length ≤ 1048576 := by
  have := (szR_ok h).1
  omega
/-- How many marks a row wants. -/
def mkS (ls : List Nat) : Nat := (ls.map fun x => 2 + x).sum
theorem kF_sum (ls : List Nat) (k : Nat) : ∀ j, j ≤ ls.length → kF ls k j = k + mkS (ls.take j)
  | 0, _ => by simp [kF, mkS]
  | j + 1, h => by
    have h1 := kF_sum ls k j (by omega)
    simp only [kF]
    rw [h1, List.take_succ_eq_append_getElem (by omega), List.getD_eq_getElem?_getD, List.getElem?_eq_getElem (by omega)]
    simp only [mkS, List.map_append, List.map_cons, List.map_nil, List.sum_append, List.sum_cons, List.sum_nil, Option.getD_some]
    omega
theorem kF_all (ls : List Nat) (k : Nat) : kF ls k ls.length = k + mkS ls := by rw [kF_sum ls k _ (Nat.le_refl _), List.take_length]
theorem kW_sum (Ls : List (List Nat)) (k : Nat) : ∀ j, j ≤ Ls.length → kW Ls k j = k + ((Ls.take j).map mkS).sum
  | 0, _ => by simp [kW]
  | j + 1, h => by
    have h1 := kW_sum Ls k j (by omega)
    simp only [kW]
    rw [kF_all, h1, List.take_succ_eq_append_getElem (by omega), List.getD_eq_getElem?_getD, List.getElem?_eq_getElem (by omega)]
    simp only [List.map_append, List.map_cons, List.map_nil, List.sum_append, List.sum_cons, List.sum_nil, Option.getD_some]
    omega
theorem mkS_fs : ∀ (l : List Fd) (a : Int), 0 ≤ a → 0 ≤ szG szFd a l → (mkS (lensF l) : Int) ≤ 2 * (l.length : Int) + (a - szG szFd a l)
  | [], a, h0, h => by simp [mkS, lensF, szG]
  | f :: t, a, h0, h => by
    simp only [szG] at h ⊢
    split at h
    · omega
    · rename_i hn
      rw [if_neg hn]
      have h1 := szFd_ok (a := a) (f := f) h0 (by omega)
      have h2 := mkS_fs t (szFd a f) (by omega) h
      have e : mkS (lensF (f :: t)) = 2 + f.2.2.length + mkS (lensF t) := by simp [mkS, lensF]
      rw [e, List.length_cons]
      push_cast
      omega
theorem mkS_row {a : Int} {l : List Fd} (h0 : 0 ≤ a) (h : 0 ≤ szFs a l) : (mkS (lensF l) : Int) ≤ 2 * (a - szFs a l) := by
  obtain ⟨h2, h3⟩ := szR_ok h
  have h5 : szFs a l = szG szFd (a - (l.length : Int)) l := h3
  rw [h5] at h ⊢
  have h4 := mkS_fs l (a - (l.length : Int)) (by omega) h
  have h6 := szG_le szFd (fun a x ha => (szFd_le a x ha).2) l (a - (l.length : Int)) (by omega)
  omega
def lensW (L : List (List Fd)) : List (List Nat) := L.map lensF
theorem mkS_rows : ∀ (L : List (List Fd)) (a : Int), 0 ≤ a → 0 ≤ szG szFs a L → ((((lensW L).map mkS).sum : Nat) : Int) ≤ 2 * (a - szG szFs a L)
  | [], a, h0, h => by simp [lensW, szG]
  | l :: t, a, h0, h => by
    simp only [szG] at h ⊢
    split at h
    · omega
    · rename_i hn
      rw [if_neg hn]
      have h1 := mkS_row (a := a) (l := l) h0 (by omega)
      have h2 := mkS_rows t (szFs a l) (by omega) h
      have e : ((lensW (l :: t)).map mkS).sum = mkS (lensF l) + ((lensW t).map mkS).sum := by simp [lensW]
      rw [e]
      push_cast
      omega
theorem kW_small {L : List (List Fd)} (h : 0 ≤ szFF 1048576 L) : kW (lensW L) 1 (lensW L).length ≤ 2097153 := by
  rw [kW_sum _ _ _ (Nat.le_refl _), List.take_length]
  obtain ⟨h2, h3⟩ := szR_ok h
  have h5 : szFF 1048576 L = szG szFs (1048576 - (L.length : Int)) L := h3
  rw [h5] at h
  have h4 := mkS_rows L (1048576 - (L.length : Int)) (by omega) h
  omega
theorem lensW_at (L : List (List Fd)) (i : Nat) : (lensW L).getD i [] = lensF (L.getD i []) := by
  by_cases h : i < L.length
  · simp [lensW, List.getD_eq_getElem?_getD, h]
  · rw [List.getD_eq_getElem?_getD, List.getElem?_eq_none (by simp [lensW]; omega), List.getD_eq_getElem?_getD, List.getElem?_eq_none (by omega)]
    rfl
theorem FsAt.sh {w : World} {lo g : Nat} {V : List Fd} (h : FsAt w g V) (hg : lo ≤ g) : ShF w lo w.heap.size g (lensF V) := by
  obtain ⟨cs, h1, h2, h3⟩ := h
  have hl : (lensF V).length = V.length := by simp [lensF]
  refine ⟨cs, h1, by omega, fun j hj => ?_⟩
  rw [hl] at hj
  obtain ⟨_, _, gn, cn, q4, q5, cu, q6, q7, q8⟩ := h3 j hj
  rw [lensF_at V j hj]
  exact ⟨gn, cn, q4, by omega, (Array.getElem?_eq_some_iff.1 q6).1, cu, q6, q7⟩
theorem FFAt.sh {w : World} {lo g : Nat} {L : List (List Fd)} (h : FFAt w g L) (hg : lo ≤ g) : ShW w lo w.heap.size g (lensW L) := by
  obtain ⟨cs, h1, h2, h3⟩ := h
  have hl : (lensW L).length = L.length := by simp [lensW]
  refine ⟨cs, h1, by omega, fun j hj => ?_⟩
  rw [hl] at hj
  obtain ⟨gr, cp, q1, q2, q3, q4⟩ := h3 j hj
  rw [lensW_at, show (lensF (L.getD j [])).length = (L.getD j []).length by simp [lensF]]
  exact ⟨gr, cp, q1, by omega, q4.lt, q4.sh (by omega)⟩
theorem SkAt.row {w : World} {g : Nat} {V : List (Tx × Bool)} (h : SkAt w g V) : RowN w g (V.length * 2) 50 := by
  obtain ⟨cs, h1, h2, _⟩ := h
  exact ⟨cs, h1, h2⟩
end Go.Proofs.Ytcnjmjcbhelkhaa
