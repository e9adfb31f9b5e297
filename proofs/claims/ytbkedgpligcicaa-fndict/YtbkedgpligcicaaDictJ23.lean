import Derived.Test.YtbkedgpligcicaaDictJ16
import Derived.Test.YtbkedgpligcicaaDictJ13
import Derived.Test.YtbkedgpligcicaaDictJ14
import Derived.Test.YtbkedgpligcicaaDictJ22
import Derived.Deep.RegionHeld
import Derived.Test.YtbkedgpligcicaaDictJ05
import Derived.Deep.QuietTactic
import Derived.Deep.CutBlock
import Derived.Deep.DeepCutAuto
import Derived.Test.YtbkedgpligcicaaDictJ19
namespace Go.Proofs.Ytbkedgpligcicaa
open Go Go.RowKit Go.Shelf
set_option linter.unusedVariables false
set_option maxRecDepth 100000
set_option linter.unusedSimpArgs false
attribute [local go_sem] Oper.semAt_some

/-- The terms behind the one that ends here. -/
structure Rest (W : World) (p : Nat) (f : Bool) (ts : List Tx) (a : Option Addr) (cp : Nat) (us : List Tx) : Prop where
  tm : TmAt W a us
  len : us.length ≤ cp
  cap : cp ≤ 9223372036854775807
  few : us.length ≤ ts.length
  sub : ∀ t ∈ us, t ∈ ts
  full : ∀ t ∈ us, p < t.length
  all : dropT p ts = (if f then [[]] else []) ++ dropT p us
theorem fin_dec (p : Nat) (ts : List Tx) : (0 < ts.length ∧ (ts.getD 0 []).length = p) ∨ ¬ (0 < ts.length ∧ (ts.getD 0 []).length = p) := Classical.em _
theorem rest_no {W : World} {p : Nat} {ts : List Tx} {a : Option Addr} {cp : Nat} (hr : RiseT (dropT p ts)) (hl : ∀ t ∈ ts, p ≤ t.length) (hf : ¬ (0 < ts.length ∧ (ts.getD 0 []).length = p)) (h1 : TmAt W a ts) (h2 : ts.length ≤ cp) (h3 : cp ≤ 9223372036854775807) : Rest W p false ts a cp ts := by
  refine ⟨h1, h2, h3, Nat.le_refl _, fun _ h => h, fun t ht => ?_, by simp⟩
  have h4 := hl t ht
  by_cases e : t.length = p
  · exfalso
    cases ts with
    | nil => simp at ht
    | cons b r =>
      have hb : b.length ≠ p := by simpa using hf
      rcases List.mem_cons.1 ht with rfl | ht
      · exact hb e
      · have h5 : ltT (b.drop p) (t.drop p) = true := (List.pairwise_cons.1 hr).1 _ (List.mem_map_of_mem ht)
        have h6 : t.drop p = [] := List.drop_eq_nil_of_le (by omega)
        rw [h6] at h5
        cases hx : b.drop p <;> simp [ltT, hx] at h5
  · omega
theorem rest_yes {W : World} {p : Nat} {b : Tx} {r : List Tx} {a : Option Addr} {cp : Nat} (hr : RiseT (dropT p (b :: r))) (hl : ∀ t ∈ b :: r, p ≤ t.length) (hf : b.length = p) (h1 : TmAt W a r) (h2 : r.length ≤ cp) (h3 : cp ≤ 9223372036854775807) : Rest W p true (b :: r) a cp r := by
  have h6 : b.drop p = [] := List.drop_eq_nil_of_le (by omega)
  refine ⟨h1, h2, h3, by simp, fun _ h => by simp [h], fun t ht => ?_, by simp [dropT, h6]⟩
  have h4 := hl t (by simp [ht])
  have h5 : ltT (b.drop p) (t.drop p) = true := (List.pairwise_cons.1 hr).1 _ (List.mem_map_of_mem ht)
  rw [h6] at h5
  by_cases e : t.length = p
  · rw [List.drop_eq_nil_of_le (by omega : t.length ≤ p)] at h5
    cases h5
  · omega
theorem TmAt.keep {W W' : World} {a : Option Addr} {ts : List Tx} (h : TmAt W a ts) (hs : W.heap.size ≤ W'.heap.size) (hk : ∀ g off, a = some ⟨g, off, none⟩ → ts ≠ [] → W'.heap[g]? = W.heap[g]?) : TmAt W' a ts := by
  rcases h with h | ⟨g, off, ha, hg, hc⟩
  · exact Or.inl h
  · by_cases hn : ts = []
    · exact Or.inl hn
    · exact Or.inr ⟨g, off, ha, by omega, fun j hj => by rw [cellH (hk g off ha hn)]; exact hc j hj⟩
theorem TmAt.part {W : World} {g off : Nat} {ts : List Tx} (h : TmAt W (some ⟨g, off, none⟩) ts) (s e : Nat) (hs : s ≤ e) (he : e ≤ ts.length) : TmAt W (some ⟨g, off + s, none⟩) ((ts.drop s).take (e - s)) := by
  rcases h with h | ⟨g', off', ha, hg, hc⟩
  · subst h; exact Or.inl (by simp)
  · cases ha
    refine Or.inr ⟨g, off + s, rfl, hg, fun j hj => ?_⟩
    rw [List.length_take, List.length_drop] at hj
    have := hc (s + j) (by omega)
    rw [Nat.add_assoc, this]
    congr 4
    rw [List.getD_eq_getElem?_getD, List.getD_eq_getElem?_getD, List.getElem?_take, if_pos (by omega), List.getElem?_drop]

theorem drop_part (p s m : Nat) (us : List Tx) : dropT (p + 1) ((us.drop s).take m) = (((dropT p us).drop s).take m).map List.tail := by
  unfold dropT
  rw [← List.map_drop, ← List.map_take, List.map_map]
  refine List.map_congr_left fun t _ => ?_
  simp [Function.comp, List.tail_drop]
theorem RecAt.drew {h : Nat} {r : Loop} {W : World} (hr : RecAt h r W) (q : Nat) : RecAt h r (W.drewN q) := ⟨by rw [← hr.rc]; simp, by rw [← hr.df]; simp⟩
theorem dropT_full {p : Nat} {us : List Tx} (h : ∀ t ∈ us, p < t.length) : FullT (dropT p us) := by
  intro t ht
  obtain ⟨u, hu, rfl⟩ := List.mem_map.1 ht
  have := h u hu
  intro e
  have := congrArg List.length e
  simp at this
  omega
theorem rise_fin {f : Bool} {T : List Tx} (h : RiseT ((if f then [[]] else []) ++ T)) : RiseT T := by
  unfold RiseT at *
  rw [List.pairwise_append] at h
  exact h.2.1

theorem cell_set_other (w : World) (b b' j k : Nat) (v : Value) (h : b' ≠ b) : (w.setCell ⟨b, j, none⟩ v).cell? ⟨b', k, none⟩ = w.cell? ⟨b', k, none⟩ := cellH (heap_setCell_other w ⟨b, j, none⟩ b' v h) k
set_option maxHeartbeats 8000000 in
theorem freeze_step {base rb mb h : Nat} (ih : ∀ k, h = k + 1 → FreezeC base rb mb k) : FreezeC base rb mb h := by
  intro W g cap L a cp ts p hreg htm hap hcp hcp2 hlen hr hlt hph hL
  have HR0 := hidd hreg
  have HT := hidd htm
  have HAp := hidd hap
  have HRi := hidd hr
  have HLt := hidd hlt
  have HIh := hidd ih
  have hrl := hreg.rlt
  have hml := hreg.mlt
  have hgl := hreg.glt
  have hapart := hreg.apart
  clear hreg htm hap hr hlt ih
  refine (callsIn_wide (n := 4)).1 ?_
  refine callsIn_of_wp_marks Try.func40 rfl trivial ?_ rfl
  simp only [Try.ntmps40, List.size_toArray, List.length_cons, List.length_nil, Nat.reduceAdd, Nat.reduceSub, Array.replicate_succ, Array.replicate_zero, List.push_toArray, List.append_toArray, List.nil_append, List.cons_append]
  refine wpIn_wide.2 ?_
  have HBa : Hid (Below W.heap.size W ((W.alloc (.cells #[.pointer (some ⟨rb, 0, none⟩)] 63)).alloc (.cells #[.int .i64 (p : Int)] 3))) := ((Below.refl _ _).alloc (Nat.le_refl _) _).alloc (by simp) _
  have Hbx := hidd (box_two W (.cells #[.pointer (some ⟨rb, 0, none⟩)] 63) (.cells #[.int .i64 (p : Int)] 3))
  go_upto_region 1 with fail
  obtain ⟨W1, hW1⟩ : ∃ W1, (W.alloc (.cells #[.pointer (some ⟨rb, 0, none⟩)] 63)).alloc (.cells #[.int .i64 (p : Int)] 3) = W1 := ⟨_, rfl⟩
  have hsz1 : W1.heap.size = W.heap.size + 2 := by rw [← hW1]; simp
  rw [hW1] at HBa Hbx
  try rw [hW1]
  clear hW1
  have k3 : W1.cell? ⟨W.heap.size, 0, none⟩ = some (.pointer (some ⟨rb, 0, none⟩)) := blkc Hbx.out.1 0
  have k5 : W1.cell? ⟨W.heap.size + 1, 0, none⟩ = some (.int .i64 (p : Int)) := blkc Hbx.out.2 0
  obtain ⟨fin, hfin⟩ : ∃ fin : Bool, (fin = true ↔ (0 < ts.length ∧ (ts.getD 0 []).length = p)) := ⟨decide _, decide_eq_true_iff⟩
  have HFin := hidd hfin
  clear hfin
  go_cut [7] from 11 to 21 (fun fv wy => fv = .bool fin ∧ ∃ q, wy = W1.drewN q)
  case first =>
    by_cases h0 : 0 < ts.length
    · have h0z : (ts.length : Int) > 0 := by omega
      obtain ⟨gT, off, rfl, hgT, hc⟩ := HT.out.resolve_left (fun h => by rw [h] at h0; simp at h0)
      have c1 := (HBa.out.cell (p := ⟨gT, off + 0, none⟩) hgT).trans (hc 0 h0)
      rw [Nat.add_zero] at c1
      clear hc
      obtain ⟨t0, ht0⟩ : ∃ t, ts.getD 0 [] = t := ⟨_, rfl⟩
      rw [ht0] at c1 HFin
      clear ht0
      have htl : (⟨t0.toArray⟩ : ByteArray).size = t0.length := by simp [ByteArray.size]
      by_cases hp0 : t0.length = p
      · have HF1 : Hid (fin = true) := HFin.out.2 ⟨h0, hp0⟩
        have hpz : ((t0.length : Int) == (p : Int)) = true := by simp [hp0]
        clear hp0 HFin
        go_quiet (fail)
        go_wp2_with fail
        go_meet
        case rel => exact ⟨by rw [HF1.out], nq, rfl⟩
      · have HF1 : Hid (fin = false) := by
          show _ = _
          cases hfx : fin with
          | false => rfl
          | true => exact absurd (HFin.out.1 hfx).2 hp0
        have hpz : ((t0.length : Int) == (p : Int)) = false := by simp; omega
        clear hp0 HFin
        go_quiet (fail)
        go_wp2_with fail
        go_meet
        case rel => exact ⟨by rw [HF1.out], nq, rfl⟩
    · have h0z : ¬ (ts.length : Int) > 0 := by omega
      have HF1 : Hid (fin = false) := by
        show _ = _
        cases hfx : fin with
        | false => rfl
        | true => exact absurd (HFin.out.1 hfx).1 h0
      clear HFin
      go_quiet (fail)
      go_wp2_with fail
      go_meet
      case rel => exact ⟨by rw [HF1.out], nq, rfl⟩
  case rest =>
    obtain ⟨rfl, q, rfl⟩ := hcut
    clear k3 k5
    have HBq : Hid (Below W.heap.size W (W1.drewN q)) := below_drewN HBa.out q
    have Hbq : Hid ((W1.drewN q).heap[W.heap.size]? = some (.cells #[.pointer (some ⟨rb, 0, none⟩)] 63) ∧ (W1.drewN q).heap[W.heap.size + 1]? = some (.cells #[.int .i64 (p : Int)] 3)) := by
      exact ⟨by rw [← Hbx.out.1]; simp, by rw [← Hbx.out.2]; simp⟩
    have hszq : (W1.drewN q).heap.size = W.heap.size + 2 := by rw [← hsz1]; simp
    generalize W1.drewN q = W2 at *
    clear HBa Hbx hsz1
    go_upto_if 22 with fail
    go_cut [1] from 22 to 24 (fun tv wy => wy = W2 ∧ ∃ a2 cp2 us, tv = .slice a2 us.length cp2 ∧ Rest W2 p fin ts a2 cp2 us ∧ (∀ gT off, a2 = some ⟨gT, off, none⟩ → us ≠ [] → gT ≠ rb ∧ gT ≠ mb ∧ gT ≠ g))
    case first =>
      have HT2 : Hid (TmAt W2 a ts) := HT.out.keep (by omega) (fun g off ha hn => by
        obtain ⟨g', off', ha', hg', _⟩ := HT.out.resolve_left hn
        rw [ha] at ha'; cases ha'
        exact HBq.out.block _ hg')
      cases fin with
      | false =>
        have HNo : Hid (¬ (0 < ts.length ∧ (ts.getD 0 []).length = p)) := fun h => by have := HFin.out.2 h; cases this
        clear HFin
        go_wp2_with fail
        go_meet
        case rel => exact ⟨rfl, a, cp, ts, rfl, rest_no HRi.out (fun t ht => (HLt.out t ht).1) HNo.out HT2.out hcp hcp2, HAp.out⟩
      | true =>
        have HYes := hidd (HFin.out.1 rfl)
        clear HFin
        obtain ⟨b, r, hbr⟩ : ∃ b r, ts = b :: r := by
          cases ts with
          | nil => exact absurd HYes.out.1 (by simp)
          | cons b r => exact ⟨b, r, rfl⟩
        have hb : b.length = p := by have := HYes.out.2; rw [hbr] at this; exact this
        obtain ⟨N, hN⟩ : ∃ N, ts.length = N := ⟨_, rfl⟩
        have hrN : r.length + 1 = N := by rw [← hN, hbr]; simp
        have h1N : 1 ≤ N := by omega
        have h1z : (1 : Int) ≤ (N : Int) := by omega
        have hNc : N ≤ cp := by omega
        have hNr : N - 1 = r.length := by omega
        obtain ⟨gT, off, rfl, hgT, hc⟩ := HT2.out.resolve_left (fun h => by rw [hbr] at h; cases h)
        have HTr : Hid (TmAt W2 (some ⟨gT, off + 1, none⟩) r) := by
          show TmAt _ _ _
          have := TmAt.part HT2.out 1 ts.length (by omega) (Nat.le_refl _)
          rw [hbr] at this
          simpa using this
        have HRi' := HRi.out
        have HLt' := HLt.out
        have HAp' := HAp.out
        rw [hbr] at HRi' HLt'
        have HRes : Hid (∀ a3 c3, TmAt W2 a3 r → r.length ≤ c3 → c3 ≤ 9223372036854775807 → Rest W2 p true ts a3 c3 r) := fun a3 c3 x1 x2 x3 => by
          rw [hbr]
          exact rest_yes HRi' (fun t ht => (HLt' t ht).1) hb x1 x2 x3
        have HAr := hidd (HAp' gT off rfl (by rw [hbr]; simp))
        rw [hN]
        have HNr := hidd hNr
        have HrN := hidd hrN
        clear hc hbr hb hN HRi' HLt' HAp' hNr hrN
        by_cases hc1 : cp = 1
        · subst hc1
          obtain rfl : N = 1 := by omega
          have HR0' : Hid (r = []) := by
            show _ = _
            have := HrN.out
            exact List.length_eq_zero_iff.1 (by omega)
          go_wp2_with fail
          go_meet
          case rel =>
            have hr0 := HR0'.out
            subst hr0
            exact ⟨rfl, _, _, [], rfl, HRes.out _ _ (Or.inl rfl) (by simp) (by omega), fun _ _ _ hn => absurd rfl hn⟩
        · have hc2 : 1 < cp := by omega
          go_wp2_with fail
          go_meet
          case rel =>
            refine ⟨rfl, some ⟨gT, off + 1, none⟩, cp - 1, r, by rw [← HNr.out], HRes.out _ _ HTr.out (by have := HNr.out; omega) (by omega), fun g' o' he _ => ?_⟩
            cases he
            exact HAr.out
    case rest =>
      obtain ⟨hwc, a2, cp2, us, rfl, hrest, hap2⟩ := hcut
      obtain rfl := hwc.symm
      have HRest := hidd hrest
      have HAp2 := hidd hap2
      have k5 : W2.cell? ⟨W.heap.size + 1, 0, none⟩ = some (.int .i64 (p : Int)) := blkc Hbq.out.2 0
      have HB3 : Hid (Below W2.heap.size W2 (W2.alloc (.cells #[.int .i64 0] 3))) := (Below.refl _ _).alloc (Nat.le_refl _) _
      have Hb3 := hidd (heap_alloc_new W2 (.cells #[.int .i64 0] 3))
      clear hrest hap2
      go_upto_region 5 with fail
      obtain ⟨W3, hW3⟩ : ∃ W3, W2.alloc (.cells #[.int .i64 0] 3) = W3 := ⟨_, rfl⟩
      have hsz3 : W3.heap.size = W.heap.size + 3 := by rw [← hW3]; simp [hszq]
      rw [hW3] at HB3 Hb3
      try rw [hW3]
      clear hW3
      rw [hszq] at Hb3
      have k5' : W3.cell? ⟨W.heap.size + 1, 0, none⟩ = some (.int .i64 (p : Int)) := (HB3.out.cell (p := ⟨W.heap.size + 1, 0, none⟩) (by show W.heap.size + 1 < _; omega)).trans k5
      clear k5
      go_wp2_with fail
      refine (branches_any a2 us.length cp2 p _).mono ?_
      rintro e w4 ⟨rfl, hw4⟩
      have hbx4 := box_two W3 (.cells #[.slice a2 us.length cp2] 23) (.cells #[.int .i64 (p : Int)] 3)
      have hB4 : Below W3.heap.size W3 w4 := by rw [hw4]; exact ((Below.refl _ _).alloc (Nat.le_refl _) _).alloc (by simp) _
      have hsz4 : w4.heap.size = W.heap.size + 5 := by rw [hw4]; simp [hsz3]
      rw [← hw4] at hbx4
      rw [hsz3] at hbx4 ⊢
      clear hw4
      have Hbx4 := hidd hbx4
      have HB4 := hidd hB4
      have Hsz4 := hidd hsz4
      have HBall : Hid (Below W.heap.size W w4) := (HBq.out.trans (HB3.out.mono (by omega))).trans (HB4.out.mono (by omega))
      have Hbq3 : Hid (w4.heap[W.heap.size]? = some (.cells #[.pointer (some ⟨rb, 0, none⟩)] 63)) := blko (blko Hbq.out.1 HB3.out) HB4.out
      have Hbq5 : Hid (w4.heap[W.heap.size + 1]? = some (.cells #[.int .i64 (p : Int)] 3)) := blko (blko Hbq.out.2 HB3.out) HB4.out
      have Hb8 : Hid (w4.heap[W.heap.size + 2]? = some (.cells #[.int .i64 0] 3)) := blko Hb3.out HB4.out
      have HTu : Hid (TmAt w4 a2 us) := HRest.out.tm.keep (by omega) (fun g off ha hn => by
        obtain ⟨g', off', ha', hg', _⟩ := HRest.out.tm.resolve_left hn
        rw [ha] at ha'; cases ha'
        exact (HB4.out.block _ (by omega)).trans (HB3.out.block _ hg'))
      have HTul : Hid (∀ gT off, a2 = some ⟨gT, off, none⟩ → us ≠ [] → gT < W2.heap.size) := fun gT off ha hn => by
        obtain ⟨g', off', ha', hg', _⟩ := HRest.out.tm.resolve_left hn
        rw [ha] at ha'; cases ha'
        exact hg'
      clear k5' hbx4 hB4 hsz3 hsz4
      dsimp only
      go_wp2_with fail
      refine (wpIn_wide (n := 4)).1 ?_
      apply range_inv (gf := 97) (lb := #[.pointer (some ⟨W.heap.size + 3, 0, none⟩), .pointer (some ⟨W.heap.size + 3 + 1, 0, none⟩)]) (I := FzInv base w4 rb mb g (W.heap.size + 2) h L (dropT p us)) (live := fun e => 0 < e ∧ e ≤ us.length) (args := brArgs a2 cp2 (dropT p us))
        (next := fun e => gsT (dropT p us) (lblT (dropT p us) (e - 1)) e) (x0 := us.length) (xN := 0)
      case hassign =>
        intro l m x Wx K hK
        unfold brArgs
        gi_wp2
        exact hK
      case hg => rfl
      case eg => exact enters_of Try.func97 (by kernel_rfl) rfl
      case hps => intro x; rfl
      case hput =>
        intro x Wx o hI
        have := Hsz4.out
        exact hI.put (by omega) (by omega) (by omega) (by omega) o
      case h0 =>
        intro Wx hbx hszx
        have hs4 := Hsz4.out
        have hbw : Below W.heap.size W Wx := HBall.out.trans (hbx.mono (by omega))
        refine ⟨by omega, hbx.os, hbx.tape, hbx.output, fun b hb _ _ _ _ => hbx.block b hb, by rw [dropT_length]; exact Nat.le_refl _, Or.inr (Or.inl (dropT_length _ _).symm), L, g, cap, 0, fun _ => 0, HR0.out.below hbw, List.prefix_refl _, by omega, ?_, blko Hb8.out hbx, Or.inl rfl⟩
        have := Part.start L h (dropT p us)
        rw [dropT_length] at this
        exact this
      case hit =>
        intro r Wx hbx hy hI hrec
        have hs4 := Hsz4.out
        refine (branches1_any 3 (w4.heap.size + 1) (W.heap.size + 3) (W.heap.size + 3 + 1) p a2 cp2 us (by omega) (by have := HRest.out.few; omega) HRest.out.len HRest.out.cap (by omega) (fun j hj => HRest.out.full _ (getD_mem hj))
          (fun e Wy => FzInv base w4 rb mb g (W.heap.size + 2) h L (dropT p us) e Wy ∧ RecAt w4.heap.size r Wy) ?_ ?_ ?_ Wx ⟨hI, hrec⟩).mono ?_
        · rintro e Wy ⟨h1, h2⟩
          have t3 : Wy.heap[W.heap.size + 3]? = some (.cells #[.slice a2 us.length cp2] 23) := (h1.fr _ (by omega) (by omega) (by omega) (by omega) (by omega)).trans Hbx4.out.1
          have t4 : Wy.heap[W.heap.size + 3 + 1]? = some (.cells #[.int .i64 (p : Int)] 3) := (h1.fr _ (by omega) (by omega) (by omega) (by omega) (by omega)).trans Hbx4.out.2
          refine ⟨blkc t3 0, blkc t4 0, HTu.out.keep (by have := h1.size; omega) (fun gT off ha hn => ?_)⟩
          have hx := HAp2.out gT off ha hn
          have hl := HTul.out gT off ha hn
          exact h1.fr _ (by omega) hx.1 hx.2.1 hx.2.2 (by omega)
        · rintro e Wy q' ⟨h1, h2⟩
          exact ⟨h1.drew q', h2.drew q'⟩
        · rintro e Wy h1 h2 ⟨h3, h4⟩
          exact hy 2 e Wy ⟨h1, h2⟩ h3 h4
        · rintro e Wy ⟨h1, h2, h3⟩
          exact ⟨h1, h2, h3⟩
      case hbody =>
        rintro m e Wx ⟨he0, he1⟩ hI hszx hrec hdf
        have hs4 := Hsz4.out
        have hId : FzInv base w4 rb mb g (W.heap.size + 2) h L (dropT p us) e Wx.drew := hI.drew 1
        have HI := hidd hId
        obtain ⟨L1, g1, c1, n, gf, hr1, hp1, hf1, hpt, hb8, hg1⟩ := hId.ex
        have hrise : RiseT (dropT p us) := rise_fin (f := fin) (by rw [← HRest.out.all]; exact HRi.out)
        have hfull := dropT_full HRest.out.full
        have hst := stepT hrise hfull he0 (by rw [dropT_length]; exact he1) hI.cut
        have hse := gsT_lt (dropT p us) he0
        have hct := gsT_cut (T := dropT p us) he0
        have hx256 : lblT (dropT p us) (e - 1) < 256 := UInt8.toNat_lt _
        generalize lblT (dropT p us) (e - 1) = x at *
        generalize gsT (dropT p us) x e = s at *
        obtain ⟨gT, off, rfl, _, _⟩ := HTu.out.resolve_left (fun h => by rw [h] at he1; simp at he1; omega)
        simp only [partV]
        have hun : us ≠ [] := fun h => by rw [h] at he1; simp at he1; omega
        have hlen1 : ((us.drop s).take (e - s)).length = e - s := by simp; omega
        have hh : h ≠ 0 := by
          have h1 := HRest.out.full _ (getD_mem (by omega : e - 1 < us.length))
          have h2 := HLt.out _ (HRest.out.sub _ (getD_mem (by omega : e - 1 < us.length)))
          omega
        obtain ⟨k, rfl⟩ : ∃ k, h = k + 1 := ⟨h - 1, by omega⟩
        have hTx : TmAt Wx.drew (some ⟨gT, off, none⟩) us := HTu.out.keep (by show _ ≤ Wx.heap.size; omega) (fun gT' off' ha hn => by
          cases ha
          have hx := HAp2.out gT off rfl hun
          have hl := HTul.out gT off rfl hun
          exact hId.fr _ (by omega) hx.1 hx.2.1 hx.2.2 (by omega))
        have hAx := HAp2.out gT off rfl hun
        have hlx := HTul.out gT off rfl hun
        have hfew := HRest.out.few
        have hbound : L1.length + (e - s) * k ≤ 1000000 := by
          have e1 : L1.length ≤ L.length + (us.length - e) * (k + 1) := by rw [dropT_length] at hf1; exact hf1
          have e2 : (us.length - e) * (k + 1) + (e - s) * (k + 1) ≤ ts.length * (k + 1) := by
            rw [← Nat.add_mul]
            exact Nat.mul_le_mul_right _ (by omega)
          have e3 : (e - s) * k ≤ (e - s) * (k + 1) := Nat.mul_le_mul_left _ (by omega)
          omega
        have HFz := hidd (HIh.out k rfl Wx.drew g1 c1 L1 (some ⟨gT, off + s, none⟩) (cp2 - s) ((us.drop s).take (e - s)) (p + 1) hr1 (hTx.part s e (by omega) he1) (fun g' o' ha _ => by cases ha; exact ⟨hAx.1, hAx.2.1, by omega⟩)
          (by rw [hlen1]; have := HRest.out.len; omega) (by have := HRest.out.cap; omega) (by rw [hlen1]; omega) (by rw [drop_part, ← hst.sub]; exact subT_rise (List.Pairwise.sublist (List.drop_sublist _ _) hrise))
          (fun t ht => by
            have ht' := List.mem_of_mem_drop (List.mem_of_mem_take ht)
            have h1 := HRest.out.full t ht'
            have h2 := HLt.out t (HRest.out.sub t ht')
            omega) (by omega) (by rw [hlen1]; exact hbound))
        rw [hlen1, drop_part] at HFz
        have hpc : ((p + 1 : Nat) : Int) = (p : Int) + 1 := by omega
        rw [hpc] at HFz
        clear hpc
        have k3 : Wx.cell? ⟨W.heap.size, 0, none⟩ = some (.pointer (some ⟨rb, 0, none⟩)) := blkc ((hI.fr _ (by omega) (by omega) (by omega) (by omega) (by omega)).trans Hbq3.out) 0
        have k5 : Wx.cell? ⟨W.heap.size + 1, 0, none⟩ = some (.int .i64 (p : Int)) := blkc ((hI.fr _ (by omega) (by omega) (by omega) (by omega) (by omega)).trans Hbq5.out) 0
        have k8 : Wx.cell? ⟨W.heap.size + 2, 0, none⟩ = some (.int .i64 (n : Int)) := blkc hb8 0
        have hnl := hpt.chain.le
        have hpz : (p : Int) ≤ 64 := by omega
        have HG1 := hidd hr1
        have HP1 := hidd hp1
        have HF1 := hidd hf1
        have HPt := hidd hpt
        have Hb8x := hidd hb8
        have HSt := hidd hst
        have HCt := hidd hct
        have hg1lt := hr1.glt
        clear hr1 hp1 hf1 hpt hb8 hst hct hI hrec hdf hTx hrise hfull hlen1
        have hmix : Try.prog.follows .mixedOrders = true := by kernel_rfl
        have hwr : IntKind.i64.wrap ((p : Int) + 1) = (p : Int) + 1 := IntWalk.i64_in _ ⟨by omega, by omega⟩
        have hB8 : W.heap.size + 2 < Wx.heap.size := by omega
        have hW0 : W.heap.size < Wx.heap.size := by omega
        have hne8 : W.heap.size + 2 ≠ rb ∧ W.heap.size + 2 ≠ mb ∧ W.heap.size + 2 ≠ g1 := by omega
        have hne3 : W.heap.size ≠ rb ∧ W.heap.size ≠ mb ∧ W.heap.size ≠ g1 := by omega
        have hne5 : W.heap.size + 1 ≠ rb ∧ W.heap.size + 1 ≠ mb ∧ W.heap.size + 1 ≠ g1 := by omega
        have hne8' : ∀ g2, (g2 = g1 ∨ Wx.drew.heap.size ≤ g2) → W.heap.size + 2 ≠ g2 ∧ W.heap.size ≠ g2 ∧ W.heap.size + 1 ≠ g2 := fun g2 h2 => by
          have : Wx.drew.heap.size = Wx.heap.size := rfl
          omega
        have Hne8 := hidd hne8'
        have HNx : Hid (∀ {Wy Wz : World} {s0 m2 g2 c2 g3 c3 : Nat} {L2 L3 : List Ar}, Frozen base Wx.drew Wy rb mb g1 L1 k ((((dropT p us).drop s).take (e - s)).map List.tail) s0 L2 g2 c2 → Chained base Wy Wz rb mb g2 L2 ((x : Int), (s0 : Int), (n : Int)) m2 L3 g3 c3 →
            FzInv base w4 rb mb g (W.heap.size + 2) (k + 1) L (dropT p us) s (Wz.setCell ⟨W.heap.size + 2, 0, none⟩ (.int .i64 ((m2 + 1 : Nat) : Int))) ∧ (∀ b, w4.heap.size ≤ b → b < w4.heap.size + 2 → (Wz.setCell ⟨W.heap.size + 2, 0, none⟩ (.int .i64 ((m2 + 1 : Nat) : Int))).heap[b]? = Wx.heap[b]?)) := fun h1 h2 =>
          FzInv.next (by omega) (by omega) (by omega) (by omega) ⟨by omega, by omega, by omega⟩ HI.out HSt.out hse HCt.out HG1.out HP1.out HF1.out HPt.out Hb8x.out hg1 h1 h2
        have hb1m : L1.length + (e - s) * k ≤ 1000000 := hbound
        have hTl : ((((dropT p us).drop s).take (e - s)).map List.tail).length = e - s := by simp [dropT_length]; omega
        have Hbnd : Hid (∀ {Wy : World} {s0 g2 c2 : Nat} {L2 : List Ar}, Frozen base Wx.drew Wy rb mb g1 L1 k ((((dropT p us).drop s).take (e - s)).map List.tail) s0 L2 g2 c2 → L2.length ≤ 1000000 ∧ s0 ≤ 2000001) := fun h1 => by
          have f1 := h1.few
          rw [hTl] at f1
          have f2 := h1.den.le
          omega
        have HFy : Hid (Calls Try.prog 40 #[.pointer (some ⟨rb, 0, none⟩), .slice (some ⟨gT, off + s, none⟩) (e - s) (cp2 - s), .int .i64 ((p : Int) + 1)] Wx.drew fun er Wy => ∃ s0 : Nat, er = .returned (.int .i64 (s0 : Int)) ∧ Wy.cell? ⟨W.heap.size, 0, none⟩ = some (.pointer (some ⟨rb, 0, none⟩)) ∧ Wy.cell? ⟨W.heap.size + 1, 0, none⟩ = some (.int .i64 (p : Int)) ∧ Wy.cell? ⟨W.heap.size + 2, 0, none⟩ = some (.int .i64 (n : Int)) ∧
            Hid (Calls Try.prog 68 #[.pointer (some ⟨rb, 0, none⟩), .agg #[.int .i64 (x : Int), .int .i64 (s0 : Int), .int .i64 (n : Int)]] Wy fun ez Wz => ∃ m2 : Nat, ez = .returned (.int .i64 (m2 : Int)) ∧ Wz.cell? ⟨W.heap.size + 2, 0, none⟩ = some (.int .i64 (n : Int)) ∧ Wz.frozen? ⟨W.heap.size + 2, 0, none⟩ = false ∧ Wz.cell? ⟨W.heap.size, 0, none⟩ = some (.pointer (some ⟨rb, 0, none⟩)) ∧ Wz.cell? ⟨W.heap.size + 1, 0, none⟩ = some (.int .i64 (p : Int)) ∧
              Hid (FzInv base w4 rb mb g (W.heap.size + 2) (k + 1) L (dropT p us) s (Wz.setCell ⟨W.heap.size + 2, 0, none⟩ (.int .i64 (m2 : Int))) ∧ (∀ b, w4.heap.size ≤ b → b < w4.heap.size + 2 → (Wz.setCell ⟨W.heap.size + 2, 0, none⟩ (.int .i64 (m2 : Int))).heap[b]? = Wx.heap[b]?)))) := by
          refine HFz.out.mono ?_
          rintro er Wy ⟨s0, L2, g2, c2, rfl, hfz⟩
          have hbn := Hbnd.out hfz
          have y8 : Wy.heap[W.heap.size + 2]? = some (.cells #[.int .i64 (n : Int)] 3) := (hfz.fr.block _ hB8 hne8.1 hne8.2.1 hne8.2.2).trans Hb8x.out
          have hgg2 := Hne8.out g2 hfz.new
          have y3b := hfz.fr.block W.heap.size hW0 hne3.1 hne3.2.1 hne3.2.2
          have y5b := hfz.fr.block (W.heap.size + 1) (by show _ < Wx.heap.size; omega) hne5.1 hne5.2.1 hne5.2.2
          refine ⟨s0, rfl, (cellH y3b 0).trans k3, (cellH y5b 0).trans k5, blkc y8 0, ?_⟩
          refine (chain_any base Wy rb mb g2 c2 L2 (x : Int) (s0 : Int) (n : Int) (by omega) hfz.reg ⟨⟨by dsimp only; omega, by dsimp only; omega⟩, ⟨by dsimp only; omega, by dsimp only; omega⟩, by dsimp only; omega, by dsimp only; omega⟩).mono ?_
          rintro ez Wz ⟨m2, L3, g3, c3, rfl, hch⟩
          have z8 : Wz.heap[W.heap.size + 2]? = some (.cells #[.int .i64 (n : Int)] 3) := (hch.fr.block _ (Array.getElem?_eq_some_iff.1 y8).1 hne8.1 hne8.2.1 hgg2.1).trans y8
          have hwy := hfz.fr.size
          have z3b := (hch.fr.block W.heap.size (Nat.lt_of_lt_of_le hW0 hwy) hne3.1 hne3.2.1 hgg2.2.1).trans y3b
          have z5b := (hch.fr.block (W.heap.size + 1) (Nat.lt_of_lt_of_le (by show _ < Wx.heap.size; omega) hwy) hne5.1 hne5.2.1 hgg2.2.2).trans y5b
          exact ⟨m2 + 1, rfl, blkc z8 0, frozen_of_row Wz _ 0 _ _ z8, (cellH z3b 0).trans k3, (cellH z5b 0).trans k5, HNx.out hfz hch⟩
        clear hs4 hbound hb1m hTl hfew hne8' hpz HFz Hbnd HNx Hne8
        gi_wp2
        have hx3 : Wx.drew.cell? ⟨W.heap.size, 0, none⟩ = some (.pointer (some ⟨rb, 0, none⟩)) := k3
        have hx5 : Wx.drew.cell? ⟨W.heap.size + 1, 0, none⟩ = some (.int .i64 (p : Int)) := k5
        have hx8 : Wx.drew.cell? ⟨W.heap.size + 2, 0, none⟩ = some (.int .i64 (n : Int)) := k8
        refine region_round (S := fun w' => w'.cell? ⟨W.heap.size, 0, none⟩ = some (.pointer (some ⟨rb, 0, none⟩)) ∧ w'.cell? ⟨W.heap.size + 1, 0, none⟩ = some (.int .i64 (p : Int))) hmix (by kernel_rfl) ?lo ⟨hx3, hx5⟩ (fun hHeld => ?go)
        case lo =>
          rintro ⟨_, _, h, _⟩
          cases h
        case go =>
          refine wpAnyH_take (i := 0) (v := ?_) rfl (by kernel_rfl) (by kernel_rfl) (by kernel_rfl) (fun _ _ _ h => h) (Or.inl ⟨by kernel_rfl, ?_⟩) (by assumption) ?_
          rotate_left
          · (intro w hSw; (try dsimp only at hSw); go_simp <;> with_reducible rfl)
          (simp only [Act.put, List.getElem_toArray, List.getElem_cons_succ, List.getElem_cons_zero, List.setIfInBounds_toArray, List.set_cons_zero, List.set_cons_succ])
          refine wpAnyH_take (i := 1) (v := ?_) rfl (by kernel_rfl) (by kernel_rfl) (by kernel_rfl) (fun _ _ _ h => h) (Or.inl ⟨by kernel_rfl, ?_⟩) (by assumption) ?_
          rotate_left
          · (intro w hSw; (try dsimp only at hSw); go_simp <;> with_reducible rfl)
          (simp only [Act.put, List.getElem_toArray, List.getElem_cons_succ, List.getElem_cons_zero, List.setIfInBounds_toArray, List.set_cons_zero, List.set_cons_succ])
          refine wpAnyH_take (i := 2) (v := ?_) rfl (by kernel_rfl) (by kernel_rfl) (by kernel_rfl) (fun _ _ _ h => h) (Or.inl ⟨by kernel_rfl, ?_⟩) (by assumption) ?_
          rotate_left
          · (intro w hSw; (try dsimp only at hSw); go_simp <;> with_reducible rfl)
          (simp only [Act.put, List.getElem_toArray, List.getElem_cons_succ, List.getElem_cons_zero, List.setIfInBounds_toArray, List.set_cons_zero, List.set_cons_succ])
          refine wpAnyH_take (i := 3) (v := ?_) rfl (by kernel_rfl) (by kernel_rfl) (by kernel_rfl) (fun _ _ _ h => h) (Or.inl ⟨by kernel_rfl, ?_⟩) (by assumption) ?_
          rotate_left
          · (intro w hSw; (try dsimp only at hSw); go_simp <;> with_reducible rfl)
          (simp only [Act.put, List.getElem_toArray, List.getElem_cons_succ, List.getElem_cons_zero, List.setIfInBounds_toArray, List.set_cons_zero, List.set_cons_succ])
          refine wpAnyH_take (i := 4) (v := ?_) rfl (by kernel_rfl) (by kernel_rfl) (by kernel_rfl) (fun _ _ _ h => h) (Or.inl ⟨by kernel_rfl, ?_⟩) (by assumption) ?_
          rotate_left
          · (intro w hSw; (try dsimp only at hSw); go_simp <;> with_reducible rfl)
          (simp only [Act.put, List.getElem_toArray, List.getElem_cons_succ, List.getElem_cons_zero, List.setIfInBounds_toArray, List.set_cons_zero, List.set_cons_succ])
          refine wpAnyH_take (i := 5) (v := ?_) rfl (by kernel_rfl) (by kernel_rfl) (by kernel_rfl) (fun _ _ _ h => h) (Or.inl ⟨by kernel_rfl, ?_⟩) (by assumption) ?_
          rotate_left
          · (intro w hSw; (try dsimp only at hSw); go_simp <;> with_reducible rfl)
          (simp only [Act.put, List.getElem_toArray, List.getElem_cons_succ, List.getElem_cons_zero, List.setIfInBounds_toArray, List.set_cons_zero, List.set_cons_succ])
          refine wpAnyH_ready (rs := [6, 7]) (by kernel_rfl) (by simp) ?_
          refine AllReadyH.cons rfl (fun K hK => ?_) (AllReadyH.cons rfl (fun K hK => ?_) AllReadyH.nil)
          · go_simp
            refine HFy.out.mono ?_
            rintro er Wy ⟨s0, rfl, y3, y5, y8, HCh⟩
            dsimp only
            refine hK.out _ _ ⟨y3, y5⟩ (fun hHeld1 => ?_)
            clear hK K
            (try simp only [Act.put, List.getElem_toArray, List.getElem_cons_succ, List.getElem_cons_zero, List.setIfInBounds_toArray, List.set_cons_zero, List.set_cons_succ])
            refine wpAnyH_ready (rs := [7]) (by kernel_rfl) (by simp) ?_
            refine AllReadyH.cons rfl (fun K hK => ?_) AllReadyH.nil
            go_simp
            refine hK.out _ _ ⟨y3, y5⟩ (fun hHeld2 => ?_)
            clear hK K
            (try simp only [Act.put, List.getElem_toArray, List.getElem_cons_succ, List.getElem_cons_zero, List.setIfInBounds_toArray, List.set_cons_zero, List.set_cons_succ])
            refine wpAnyH_take (i := 8) (v := ?_) rfl (by kernel_rfl) (by kernel_rfl) (by kernel_rfl) (fun _ _ _ h => h) (Or.inl ⟨by kernel_rfl, ?_⟩) (by assumption) ?_
            rotate_left
            · (intro w hSw; (try dsimp only at hSw); go_simp <;> with_reducible rfl)
            (simp only [Act.put, List.getElem_toArray, List.getElem_cons_succ, List.getElem_cons_zero, List.setIfInBounds_toArray, List.set_cons_zero, List.set_cons_succ])
            refine wpAnyH_ready (rs := [9]) (by kernel_rfl) (by simp) ?_
            refine AllReadyH.cons rfl (fun K hK => ?_) AllReadyH.nil
            go_simp
            refine HCh.out.mono ?_
            rintro ez Wz ⟨m2, rfl, z0, z1, z3, z5, HN⟩
            dsimp only
            refine hK.out _ _ ⟨z3, z5⟩ (fun hHeld9 => ?_)
            clear hK K
            (try simp only [Act.put, List.getElem_toArray, List.getElem_cons_succ, List.getElem_cons_zero, List.setIfInBounds_toArray, List.set_cons_zero, List.set_cons_succ])
            refine wpAnyH_ready (rs := [10]) (by kernel_rfl) (by simp) ?_
            refine AllReadyH.cons rfl (fun K hK => ?_) AllReadyH.nil
            go_simp
            refine hK.out _ _ ⟨?s3, ?s5⟩ (fun hHeld10 => ?_)
            case s3 => rw [cell_set_other Wz (W.heap.size + 2) W.heap.size 0 0 _ (by omega)]; exact z3
            case s5 => rw [cell_set_other Wz (W.heap.size + 2) (W.heap.size + 1) 0 0 _ (by omega)]; exact z5
            clear hK K
            (try simp only [Act.put, List.getElem_toArray, List.getElem_cons_succ, List.getElem_cons_zero, List.setIfInBounds_toArray, List.set_cons_zero, List.set_cons_succ])
            refine wpAnyH_done (by kernel_rfl) ?_ _
            exact ⟨rfl, HN.out.1, HN.out.2 _ (Nat.le_refl _) (by omega), HN.out.2 _ (by omega) (by omega)⟩
          · go_simp
            refine hK.out _ _ ⟨hx3, hx5⟩ (fun hHeld2 => ?_)
            clear hK K
            (try simp only [Act.put, List.getElem_toArray, List.getElem_cons_succ, List.getElem_cons_zero, List.setIfInBounds_toArray, List.set_cons_zero, List.set_cons_succ])
            refine wpAnyH_ready (rs := [6]) (by kernel_rfl) (by simp) ?_
            refine AllReadyH.cons rfl (fun K hK => ?_) AllReadyH.nil
            go_simp
            refine HFy.out.mono ?_
            rintro er Wy ⟨s0, rfl, y3, y5, y8, HCh⟩
            dsimp only
            refine hK.out _ _ ⟨y3, y5⟩ (fun hHeld1 => ?_)
            clear hK K
            (try simp only [Act.put, List.getElem_toArray, List.getElem_cons_succ, List.getElem_cons_zero, List.setIfInBounds_toArray, List.set_cons_zero, List.set_cons_succ])
            refine wpAnyH_take (i := 8) (v := ?_) rfl (by kernel_rfl) (by kernel_rfl) (by kernel_rfl) (fun _ _ _ h => h) (Or.inl ⟨by kernel_rfl, ?_⟩) (by assumption) ?_
            rotate_left
            · (intro w hSw; (try dsimp only at hSw); go_simp <;> with_reducible rfl)
            (simp only [Act.put, List.getElem_toArray, List.getElem_cons_succ, List.getElem_cons_zero, List.setIfInBounds_toArray, List.set_cons_zero, List.set_cons_succ])
            refine wpAnyH_ready (rs := [9]) (by kernel_rfl) (by simp) ?_
            refine AllReadyH.cons rfl (fun K hK => ?_) AllReadyH.nil
            go_simp
            refine HCh.out.mono ?_
            rintro ez Wz ⟨m2, rfl, z0, z1, z3, z5, HN⟩
            dsimp only
            refine hK.out _ _ ⟨z3, z5⟩ (fun hHeld9 => ?_)
            clear hK K
            (try simp only [Act.put, List.getElem_toArray, List.getElem_cons_succ, List.getElem_cons_zero, List.setIfInBounds_toArray, List.set_cons_zero, List.set_cons_succ])
            refine wpAnyH_ready (rs := [10]) (by kernel_rfl) (by simp) ?_
            refine AllReadyH.cons rfl (fun K hK => ?_) AllReadyH.nil
            go_simp
            refine hK.out _ _ ⟨?s3, ?s5⟩ (fun hHeld10 => ?_)
            case s3 => rw [cell_set_other Wz (W.heap.size + 2) W.heap.size 0 0 _ (by omega)]; exact z3
            case s5 => rw [cell_set_other Wz (W.heap.size + 2) (W.heap.size + 1) 0 0 _ (by omega)]; exact z5
            clear hK K
            (try simp only [Act.put, List.getElem_toArray, List.getElem_cons_succ, List.getElem_cons_zero, List.setIfInBounds_toArray, List.set_cons_zero, List.set_cons_succ])
            refine wpAnyH_done (by kernel_rfl) ?_ _
            exact ⟨rfl, HN.out.1, HN.out.2 _ (Nat.le_refl _) (by omega), HN.out.2 _ (by omega) (by omega)⟩
      case hdone =>
        intro Wx hI hdf
        have hs4 := Hsz4.out
        obtain ⟨L1, g1, c1, n, gf, hr1, hp1, hf1, hpt, hb8, hg1⟩ := hI.ex
        have hfew := HRest.out.few
        have hbd : L1.length ≤ L.length + ts.length * h := by
          rw [Nat.sub_zero, dropT_length] at hf1
          exact Nat.le_trans hf1 (Nat.add_le_add_left (Nat.mul_le_mul_right _ hfew) _)
        have hnl := hpt.chain.le
        have HZ : Hid (∀ w', AllBut Wx w' → Below W.heap.size Wx w' → Frozen base W w' rb mb g L h (dropT p ts) (frz n fin) L1 g1 c1) := by
          intro w' hab hbw
          obtain ⟨es, clk, hmp, _⟩ := hr1.map
          obtain ⟨cur, hcur⟩ := hr1.row_cells
          have hIs := hI.size
          refine ⟨hr1.keep (by rw [hab.size]; exact Nat.le_refl _) (hab.block _ (by rw [hr1.reg]; intro e; cases e)) (hab.block _ (by rw [hmp]; intro e; cases e)) (hab.block _ (by rw [hcur]; intro e; cases e)), ⟨?_, ?_, ?_, ?_, ?_⟩, ?_, hp1, ?_, ?_⟩
          · have := hbw.size; omega
          · exact hbw.os.trans (hI.os.trans HBall.out.os)
          · exact hbw.tape.trans (hI.tape.trans HBall.out.tape)
          · exact hbw.output.trans (hI.output.trans HBall.out.output)
          · intro b hb h1 h2 h3
            exact (hbw.block b hb).trans ((hI.fr b (by omega) h1 h2 h3 (by omega)).trans (HBall.out.block b hb))
          · rw [HRest.out.all]
            exact hpt.whole (dropT_full HRest.out.full) fin
          · rw [dropT_length]; exact hbd
          · rcases hg1 with h1 | h1
            · exact Or.inl h1
            · exact Or.inr (by omega)
        have k8 : Wx.cell? ⟨W.heap.size + 2, 0, none⟩ = some (.int .i64 (n : Int)) := blkc hb8 0
        have Hdf := hidd hdf
        have hn1 : n ≤ 1000000 := by omega
        clear hr1 hp1 hf1 hpt hb8 hI hdf hbd hfew hs4
        go_wp2_with fail
        refine (doubled_any n fin Wx (by omega) (frz n fin) rfl).mono ?_
        rintro e W9 ⟨rfl, hW9⟩
        obtain rfl := hW9.symm
        clear hW9
        generalize hfz : frz n fin = fz at *
        clear hfz
        go_wp2_with fail
        refine leaves_marks (B := W.heap.size) [w4.heap.size] _ _ ⟨by simp, fun D hD => ?_⟩ (AllBut.refl _) (Below.refl _ _) (fun w' hab hbw => ⟨_, results_tmp rfl _ _ _, ⟨_, _, _, _, rfl, HZ.out w' hab hbw⟩⟩)
        have : D = w4.heap.size := by simpa using hD
        subst this
        exact ⟨by have := Hsz4.out; omega, Hdf.out⟩
theorem freeze_all (base rb mb : Nat) : ∀ h, FreezeC base rb mb h
  | 0 => freeze_step (fun k hk => by omega)
  | h + 1 => freeze_step (fun k hk => by
    have : k = h := by omega
    subst this
    exact freeze_all base rb mb k)
end Go.Proofs.Ytbkedgpligcicaa

namespace Go.Proofs.Ytbkedgpligcicaa
open Go Go.RowKit
set_option linter.unusedVariables false
set_option maxRecDepth 100000

instance (t : Tx) : Decidable (okT t) := by unfold okT; infer_instance
theorem okT_dec (t : Tx) : (decide ((1 : Int) ≤ (t.length : Int)) && decide ((t.length : Int) ≤ 64)) = decide (okT t) := by
  rw [← Bool.decide_and]
  congr 1
  simp only [okT, eq_iff_iff]
  omega
set_option maxHeartbeats 4000000 in
theorem termsCode_any (a : Option Addr) (cap : Nat) (ts : List Tx) (w : World) (hl : ts.length ≤ 1048576) (h : TmAt w a ts) :
    Calls Try.prog 37 #[.slice a ts.length cap] w fun e w' => ∃ c, e = .returned (.int .i64 c) ∧ CodeT ts c ∧ ∃ q, w' = w.drewN q := by
  by_cases hlong : 4096 < ts.length
  · have hlz : (4096 : Int) < (ts.length : Int) := by omega
    go_enter Try.func37, Try.ntmps37
    go_wp2
    go_ret
    exact ⟨2, rfl, Or.inl ⟨hlong, rfl⟩, 0, rfl⟩
  have hlz : ¬ (4096 : Int) < (ts.length : Int) := by omega
  have HT := hidd h
  clear h
  go_enter Try.func37, Try.ntmps37
  go_wp2
  go_loop [11] (fun iv => ∃ i : Nat, i ≤ ts.length ∧ iv = .int .i64 (i : Int) ∧ ∀ j, j < i → okT (ts.getD j [])) (fun iv => ts.length - (intOf iv).toNat)
  case atStart => exact ⟨0, Nat.zero_le _, rfl, fun j hj => by omega⟩
  case round =>
    obtain ⟨i, hi, rfl, hok⟩ := hrel
    have HOk := hidd hok
    clear hok
    by_cases hlt : i < ts.length
    · have hltz : (i : Int) < (ts.length : Int) := by omega
      obtain ⟨g, off, rfl, hg, hc⟩ := HT.out.resolve_left (fun h => by rw [h] at hlt; simp at hlt)
      have c1 := hc i hlt
      clear hc
      have HD := hidd (okT_dec (ts.getD i []))
      obtain ⟨t, ht⟩ : ∃ t, ts.getD i [] = t := ⟨_, rfl⟩
      have Ht := hidd ht
      rw [ht] at c1 HD
      clear ht
      have htl : (⟨t.toArray⟩ : ByteArray).size = t.length := by simp [ByteArray.size]
      go_wp2_with fail
      refine (within_any _ _ _ _).mono ?_
      rintro e w1 ⟨rfl, hw1⟩
      obtain rfl := hw1.symm
      rw [HD.out]
      by_cases hok : okT t
      · have HK : Hid (okT t) := hok
        rw [decide_eq_true hok]
        clear hok
        go_wp2
        go_round
        case rel =>
          refine ⟨i + 1, by omega, by go_num, fun j hj => ?_⟩
          by_cases e : j = i
          · subst e; rw [Ht.out]; exact HK.out
          · exact HOk.out j (by omega)
        case measure => simp [intOf]; omega
      · have HK : Hid (¬ okT t) := hok
        rw [decide_eq_false hok]
        clear hok
        go_wp2
        go_ret
        exact ⟨1, rfl, Or.inr (Or.inl ⟨by omega, ⟨i, hlt, by rw [Ht.out]; exact HK.out⟩, rfl⟩), 0, rfl⟩
    · have hltz : ¬ (i : Int) < (ts.length : Int) := by omega
      have HAll : Hid (∀ j, j < ts.length → okT (ts.getD j [])) := fun j hj => HOk.out j (by omega)
      go_wp2
      go_loopw [5] (fun iv wr => ∃ i : Nat, 1 ≤ i ∧ iv = .int .i64 (i : Int) ∧ i ≤ 4097 ∧ (∀ j, 0 < j → j < i → j < ts.length → ltT (ts.getD (j - 1) []) (ts.getD j []) = true) ∧ ∃ q, wr = w.drewN q) (fun iv _ => 5000 - (intOf iv).toNat)
      case atStart => exact ⟨1, Nat.le_refl _, rfl, by omega, fun j h0 h1 => by omega, 0, rfl⟩
      case round =>
        obtain ⟨i, hi1, rfl, hi2, hri, q, rfl⟩ := hrel
        have HRi := hidd hri
        clear hri
        by_cases hlt : i < ts.length
        · have hltz : (i : Int) < (ts.length : Int) := by omega
          obtain ⟨g, off, rfl, hg, hc⟩ := HT.out.resolve_left (fun h => by rw [h] at hlt; simp at hlt)
          have c1 := hc i hlt
          have c2 := hc (i - 1) (by omega)
          clear hc
          obtain ⟨ti, hti⟩ : ∃ t, ts.getD i [] = t := ⟨_, rfl⟩
          obtain ⟨tp, htp⟩ : ∃ t, ts.getD (i - 1) [] = t := ⟨_, rfl⟩
          have Hti := hidd hti
          have Htp := hidd htp
          rw [hti] at c1
          rw [htp] at c2
          have hpn : ((i : Int) - 1).toNat = i - 1 := by omega
          have hp0 : ¬ ((i : Int) - 1 < 0) := by omega
          have hp1 : (i : Int) - 1 < (ts.length : Int) := by omega
          clear hti htp
          go_upto_region 12 with fail
          go_cut [35] (fun v wy => v = .bool (!(ltT tp ti)) ∧ ∃ q', wy = w.drewN q')
          case first =>
            go_quiet (fail)
            go_wp2_with fail
            go_meet
            case rel => exact ⟨by rw [← le_lt], q + nq, by first | rfl | simp [World.drewN, Nat.add_assoc]⟩
          case rest =>
            obtain ⟨rfl, q', rfl⟩ := hcut
            cases hlt2 : ltT tp ti with
            | true =>
              have HL2 := hidd hlt2
              clear hlt2
              go_wp2
              go_roundw
              case rel =>
                refine ⟨i + 1, by omega, by go_num, by omega, fun j h0 h1 h2 => ?_, q', rfl⟩
                by_cases e : j = i
                · subst e; rw [Hti.out, Htp.out]; exact HL2.out
                · exact HRi.out j h0 (by omega) h2
              case measure => simp [intOf]; omega
            | false =>
              have HL2 := hidd hlt2
              clear hlt2
              go_wp2
              go_ret
              exact ⟨17, rfl, Or.inr (Or.inr (Or.inl ⟨by omega, HAll.out, ⟨i, by omega, hlt, by rw [Hti.out, Htp.out]; exact HL2.out⟩, rfl⟩)), q', rfl⟩
        · have hltz : ¬ (i : Int) < (ts.length : Int) := by omega
          go_wp2
          go_ret
          exact ⟨0, rfl, Or.inr (Or.inr (Or.inr ⟨by omega, HAll.out, fun j h0 h1 => HRi.out j h0 (by omega) h1, rfl⟩)), q, rfl⟩
end Go.Proofs.Ytbkedgpligcicaa

namespace Go.Proofs.Ytbkedgpligcicaa
open Go
set_option linter.unusedVariables false

/-! What is built of a frozen state is the dictionary of its set. -/
theorem bare_bareS (s : St) : bare s = bareS s := rfl
theorem stF_bare {L : List Ar} {o : List Nat} : (o.map (stF L o)).map bareS = o.map (stF L o) := by
  rw [List.map_map]
  refine List.map_congr_left fun s _ => ?_
  simp only [Function.comp, bareS, stF, List.map_map]
  rfl
theorem built_plain {L : List Ar} {d r : Nat} {ts : List Tx} {o : List Nat} (hg : GoodT ts) (hn : L.Nodup) (hd : Den L d ts r) (hb : IsBfs (nxF L) r o) :
    ∃ ord, IsBfs nextT ts ord ∧ ord.length = o.length ∧ (o.length ≤ 16384 → Must (o.map (stF L o)) ∧ ∀ E, EndOK (o.map (stF L o)) E → (((valE E 0 : Nat) : Int), (o.map (stF L o)).map (ahdS E)) = dictOf ts ord) := by
  obtain ⟨h1, h2⟩ := frozen_plain hn hg.1 hd hb
  refine ⟨o.map (setF L), h1, by simp, fun hl => ?_⟩
  have hD : IsDict (dictOf ts (o.map (setF L))) ts := ⟨hg, _, h1, by simpa using hl, rfl⟩
  have hL : Like (dictOf ts (o.map (setF L))).2 (o.map (stF L o)) := by
    show ((o.map (setF L)).map (stOf (o.map (setF L)))).map bareS = (o.map (stF L o)).map bareS
    rw [stF_bare, h2]
    rfl
  refine ⟨hL.must (c := (dictOf ts (o.map (setF L))).1) hD, fun E hE => ?_⟩
  obtain ⟨us, hU⟩ := hE.dict
  refine (hU.bareEq hD ?_).1
  show ((o.map (stF L o)).map (ahdS E)).map bareS = _
  rw [show ((o.map (stF L o)).map (ahdS E)).map bareS = (o.map (stF L o)).map bareS from ahdS_like E _]
  exact hL.symm
end Go.Proofs.Ytbkedgpligcicaa

namespace Go.Proofs.Ytbkedgpligcicaa
open Go Go.RowKit Go.Shelf
set_option linter.unusedVariables false

/-! Aheads written into the arcs of states. -/
structure ButX (X : Nat → Prop) (w w' : World) : Prop where
  os : w'.os = w.os
  tape : w'.tape = w.tape
  output : w'.output = w.output
  size : w.heap.size ≤ w'.heap.size
  block : ∀ b, b < w.heap.size → ¬ X b → w'.heap[b]? = w.heap[b]?
theorem ButX.refl (X : Nat → Prop) (w : World) : ButX X w w := ⟨rfl, rfl, rfl, Nat.le_refl _, fun _ _ _ => rfl⟩
theorem ButX.trans {X Y Z : Nat → Prop} {a b c : World} (h : ButX X a b) (k : ButX Y b c) (hx : ∀ i, i < a.heap.size → X i → Z i) (hy : ∀ i, i < a.heap.size → Y i → Z i) : ButX Z a c :=
  ⟨k.os.trans h.os, k.tape.trans h.tape, k.output.trans h.output, Nat.le_trans h.size k.size, fun i hi hn =>
    (k.block i (Nat.lt_of_lt_of_le hi h.size) fun e => hn (hy i hi e)).trans (h.block i hi fun e => hn (hx i hi e))⟩
theorem ButX.of_below {X : Nat → Prop} {a b : World} (h : Below a.heap.size a b) : ButX X a b := ⟨h.os, h.tape, h.output, h.size, fun i hi _ => h.block i hi⟩
theorem ButX.below {X : Nat → Prop} {n : Nat} {a b : World} (h : ButX X a b) (hn : n ≤ a.heap.size) (hx : ∀ i, i < n → ¬ X i) : Below n a b :=
  ⟨h.os, h.tape, h.output, h.size, fun i hi => h.block i (by omega) (hx i hi)⟩
/-- The arcs of which some have their Ahead. -/
def updA (f : Bool) (E : List Nat) (l : List Ar) (pre : List Nat) : List Ar := l.mapIdx fun i a => if i ∈ pre then (a.1, a.2.1, ((ahN f E l i : Nat) : Int)) else a
theorem updA_len (f : Bool) (E : List Nat) (l : List Ar) (pre : List Nat) : (updA f E l pre).length = l.length := by simp [updA]
theorem updA_nil (f : Bool) (E : List Nat) (l : List Ar) : updA f E l [] = l := by
  apply List.ext_getElem
  · simp [updA]
  · intro i h1 h2; simp [updA]
theorem updA_at (f : Bool) (E : List Nat) (l : List Ar) (pre : List Nat) {i : Nat} (h : i < l.length) : (updA f E l pre).getD i ar0 = if i ∈ pre then ((l.getD i ar0).1, (l.getD i ar0).2.1, ((ahN f E l i : Nat) : Int)) else l.getD i ar0 := by
  simp [updA, List.getD_eq_getElem?_getD, h]
theorem ahdA_len (E : List Nat) : ∀ (n : Nat) (l : List Ar), (ahdA E n l).length = l.length := fun n l => by
  have := congrArg List.length (ahdA_bare E l n)
  simpa using this
theorem updA_all (f : Bool) (E : List Nat) (l : List Ar) (pre : List Nat) (h : ∀ i, i < l.length → i ∈ pre) : updA f E l pre = ahdA E (if f then 1 else 0) l := by
  apply List.ext_getElem
  · rw [updA_len, ahdA_len]
  · intro i h1 h2
    rw [updA_len] at h1
    have e1 : (updA f E l pre)[i] = (l[i].1, l[i].2.1, ((ahN f E l i : Nat) : Int)) := by simp [updA, h i h1]
    have e2 := ahdA_at E l (if f then 1 else 0) i _ (List.getElem?_eq_getElem h2)
    have e3 : bareA ((ahdA E (if f then 1 else 0) l)[i]) = bareA l[i] := by
      have := congrArg (fun (t : List Ar) => t[i]?) (ahdA_bare E l (if f then 1 else 0))
      simp [h1, h2] at this
      exact this
    rw [e1]
    have e4 : (ahdA E (if f then 1 else 0) l)[i].1 = l[i].1 ∧ (ahdA E (if f then 1 else 0) l)[i].2.1 = l[i].2.1 := by
      unfold bareA at e3
      simp only [Prod.mk.injEq, and_true] at e3
      exact e3
    refine Prod.ext e4.1.symm (Prod.ext e4.2.symm ?_)
    rw [e2]
    rfl
/-- One Ahead more. -/
theorem HoldA.ahead {W : World} {b off : Nat} {f : Bool} {E : List Nat} {l : List Ar} {pre : List Nat} {x : Nat} {cur : Array Value} (h : HoldA W (some ⟨b, off, none⟩) (updA f E l pre)) (hx : x < l.length) (hb : W.heap[b]? = some (.cells cur 85)) :
    HoldA (W.setCell ⟨b, off + x * 3 + 2, none⟩ (.int .i64 ((ahN f E l x : Nat) : Int))) (some ⟨b, off, none⟩) (updA f E l (pre ++ [x])) := by
  rcases h with h | ⟨b', off', e, hbl, hc⟩
  · have := congrArg List.length h
    rw [updA_len, List.length_nil] at this
    omega
  · cases e
    refine Or.inr ⟨b, off, rfl, by simpa using hbl, fun k hk => ?_⟩
    rw [updA_len] at hk
    have hc' := hc k (by rw [updA_len]; exact hk)
    rw [updA_at f E l pre hk] at hc'
    rw [updA_at f E l (pre ++ [x]) hk]
    have hs := blk_setk hb (off + x * 3 + 2) (.int .i64 ((ahN f E l x : Nat) : Int))
    have cell : ∀ j, j ≠ off + x * 3 + 2 → (W.setCell ⟨b, off + x * 3 + 2, none⟩ (.int .i64 ((ahN f E l x : Nat) : Int))).cell? ⟨b, j, none⟩ = W.cell? ⟨b, j, none⟩ := fun j hj => by
      rw [blkc hs j, blkc hb j, Array.getElem?_setIfInBounds_ne (by omega)]
    rw [cell _ (by omega), cell _ (by omega)]
    by_cases hkx : k = x
    · subst hkx
      have hlt : off + k * 3 + 2 < cur.size := by
        have := hc'.2.2
        rw [blkc hb] at this
        exact (Array.getElem?_eq_some_iff.1 this).1
      rw [if_pos (by simp)]
      refine ⟨?_, ?_, ?_⟩
      · rw [hc'.1]; split <;> rfl
      · rw [hc'.2.1]; split <;> rfl
      · rw [blkc hs, Array.getElem?_setIfInBounds_self_of_lt hlt]
    · rw [cell _ (by omega)]
      have hm : (k ∈ pre ++ [x]) ↔ k ∈ pre := by simp [hkx]
      simp only [hm]
      exact hc'
end Go.Proofs.Ytbkedgpligcicaa
