import Derived.Test.YtcnjmjcbhelkhaaMergeHitsJ20
import Derived.Test.YtcnjmjcbhelkhaaMergeHitsJ14
namespace Go.Proofs.Ytcnjmjcbhelkhaa
open Go Go.RowKit
set_option linter.unusedVariables false
set_option linter.unusedSimpArgs false
set_option maxRecDepth 100000

/-! How great an answer is. -/
theorem mrgM_all {ds : List Bool} {P : Fd → Prop} : ∀ (n : Nat) (L : List (List Fd)), (∀ i, ∀ f ∈ L.getD i [], P f) → (mrgM ds n L).length ≤ n ∧ ∀ f ∈ mrgM ds n L, P f
  | 0, L, h => by simp [mrgM]
  | n + 1, L, h => by
    by_cases hx : ∃ b, BestM ds L L.length b
    · obtain ⟨b, hb⟩ := hx
      rw [mrgM_step hb]
      have h2 := mrgM_all (ds := ds) (P := P) n (L.set b (L.getD b []).tail) (fun i f hf => by
        by_cases e : i = b
        · subst e
          rw [List.getD_eq_getElem?_getD, List.getElem?_set_self hb.1] at hf
          exact h i f (List.mem_of_mem_tail hf)
        · rw [List.getD_eq_getElem?_getD, List.getElem?_set_ne (fun x => e x.symm), ← List.getD_eq_getElem?_getD] at hf
          exact h i f hf)
      refine ⟨by rw [List.length_cons]; omega, fun f hf => ?_⟩
      rcases List.mem_cons.1 hf with rfl | hf
      · refine h b _ ?_
        unfold hitM
        cases he : L.getD b [] with
        | nil => exact absurd he hb.2.1
        | cons x t => simp
      · exact h2.2 f hf
    · rw [mrgM, dif_neg hx]
      simp
theorem mhL_small (ds : List Bool) (L : List (List Fd)) (size : Int) : (mhL ds L size).length ≤ 1000 ∧ ∀ j, ((mhL ds L size).getD j fd0).2.2.length ≤ 4 := by
  by_cases hc : mhC ds L size = 0
  · rw [mhL, if_pos hc]
    unfold mhC at hc
    split at hc
    · omega
    split at hc
    · omega
    split at hc
    · omega
    rename_i h3
    have hsz : ¬ size > 1000 := fun e => h3 (Or.inr (Or.inl e))
    have hds : ¬ ds.length > 4 := fun e => h3 (Or.inr (Or.inr (Or.inl e)))
    have hod : ¬ oddK ds.length L = true := fun e => h3 (Or.inr (Or.inr (Or.inr e)))
    have hall : ∀ i, ∀ f ∈ L.getD i [], f.2.2.length ≤ 4 := fun i f hf => by
      by_cases hi : i < L.length
      · have hm : L.getD i [] ∈ L := by rw [List.getD_eq_getElem?_getD, List.getElem?_eq_getElem hi]; exact List.getElem_mem hi
        by_cases e : f.2.2.length = ds.length
        · omega
        · exact absurd (by
            unfold oddK
            rw [List.any_eq_true]
            refine ⟨_, hm, ?_⟩
            rw [List.any_eq_true]
            exact ⟨f, hf, by simpa using e⟩) hod
      · rw [List.getD_eq_getElem?_getD, List.getElem?_eq_none (by omega)] at hf
        simp at hf
    obtain ⟨h1, h2⟩ := mrgM_all (ds := ds) size.toNat L hall
    refine ⟨by omega, fun j => ?_⟩
    by_cases hj : j < (mrgM ds size.toNat L).length
    · refine h2 _ ?_
      rw [List.getD_eq_getElem?_getD, List.getElem?_eq_getElem hj]
      exact List.getElem_mem hj
    · rw [List.getD_eq_getElem?_getD, List.getElem?_eq_none (by omega)]
      simp [fd0]
  · rw [mhL, if_neg hc]
    simp [fd0]
theorem lensF_small {F : List Fd} (h : ∀ j, (F.getD j fd0).2.2.length ≤ 4) : ∀ j, (lensF F).getD j 0 ≤ 4096 := fun j => by
  by_cases hj : j < F.length
  · rw [lensF_at F j hj]; have := h j; omega
  · rw [List.getD_eq_getElem?_getD, List.getElem?_eq_none (by simp [lensF]; omega)]; simp
end Go.Proofs.Ytcnjmjcbhelkhaa

namespace Go.Proofs.Ytcnjmjcbhelkhaa
open Go Go.RowKit Go.Shelf
set_option linter.unusedVariables false
set_option maxRecDepth 100000
set_option linter.unusedSimpArgs false

/-! impl.MergeHits: the walk. -/
attribute [local go_sem] Oper.semAt_some
theorem mhC_ok {ds : List Bool} {L : List (List Fd)} {size : Int} (h : mhC ds L size = 0) : L.length ≤ 16 ∧ (∀ i, i < L.length → (L.getD i []).length ≤ 4096) ∧ 0 ≤ size ∧ size ≤ 1000 ∧ ds.length ≤ 4 ∧ oddK ds.length L = false := by
  unfold mhC at h
  by_cases h1 : L.length > 16
  · rw [if_pos h1] at h; omega
  · rw [if_neg h1] at h
    cases h2 : (L.any fun l => decide (l.length > 4096)) with
    | true => rw [h2, if_pos rfl] at h; omega
    | false =>
      rw [h2, if_neg (by simp)] at h
      by_cases h3 : size < 0 ∨ size > 1000 ∨ ds.length > 4 ∨ oddK ds.length L = true
      · rw [if_pos h3] at h; omega
      · refine ⟨by omega, fun i hi => ?_, ?_, ?_, ?_, ?_⟩
        · rw [List.any_eq_false] at h2
          have := h2 (L.getD i []) (by simp [hi])
          simpa using this
        · exact Classical.byContradiction fun e => h3 (Or.inl (by omega))
        · exact Classical.byContradiction fun e => h3 (Or.inr (Or.inl (by omega)))
        · exact Classical.byContradiction fun e => h3 (Or.inr (Or.inr (Or.inl (by omega))))
        · cases e : oddK ds.length L with
          | false => rfl
          | true => exact absurd (Or.inr (Or.inr (Or.inr e))) h3
theorem exec_loadSl (W : World) (ρ : Operand → Value) (o : Oper) (x : Operand) (ho : o.op = .load 26 x) (b off : Nat) (s : Option Addr) (n c : Nat) (hx : ρ x = .pointer (some ⟨b, off, none⟩))
    (h0 : W.cell? ⟨b, off, none⟩ = some (.slice s n c)) : (execOp ρ o).run Try.prog W = .ok (.value (.slice s n c)) W := by
  unfold execOp
  simp only [ho, Instr.loadAt, Instr.sureAddr, hx, Sem.run_bind, Sem.run_pure, Result.andThen_ok]
  go_simp
theorem exec_storeSl (W : World) (ρ : Operand → Value) (o : Oper) (x y : Operand) (ho : o.op = .store 26 x y) (b off : Nat) (s : Option Addr) (n c : Nat) (u : Value) (hx : ρ x = .pointer (some ⟨b, off, none⟩)) (hy : ρ y = .slice s n c)
    (h0 : W.cell? ⟨b, off, none⟩ = some u) (hf : W.frozen? ⟨b, off, none⟩ = false) : (execOp ρ o).run Try.prog W = .ok .skip (W.setCell ⟨b, off, none⟩ (.slice s n c)) := by
  unfold execOp
  simp only [ho, Instr.storeAt, Instr.sureAddr, hx, hy, Sem.run_bind, Sem.run_pure, Result.andThen_ok]
  go_simp
theorem exec_loadFd (W : World) (ρ : Operand → Value) (o : Oper) (x : Operand) (ho : o.op = .load 47 x) (b : Nat) (s : ByteArray) (z : Int) (a : Option Addr) (n c : Nat) (hx : ρ x = .pointer (some ⟨b, 0, none⟩))
    (h0 : W.cell? ⟨b, 0, none⟩ = some (.string s)) (h1 : W.cell? ⟨b, 1, none⟩ = some (.int .i64 z)) (h2 : W.cell? ⟨b, 2, none⟩ = some (.slice a n c)) : (execOp ρ o).run Try.prog W = .ok (.value (.agg #[.string s, .int .i64 z, .slice a n c])) W := by
  unfold execOp
  simp only [ho, Instr.loadAt, Instr.sureAddr, hx, Sem.run_bind, Sem.run_pure, Result.andThen_ok]
  go_simp
theorem exec_buildFs (W : World) (ρ : Operand → Value) (o : Oper) (x : Operand) (ho : o.op = .buildSlice 26 1 #[(0, x)]) (s : ByteArray) (z : Int) (a : Option Addr) (n c : Nat) (hx : ρ x = .agg #[.string s, .int .i64 z, .slice a n c]) :
    (execOp ρ o).run Try.prog W = .ok (.value (.slice (some ⟨W.heap.size, 0, none⟩) 1 1)) (W.alloc (.cells #[.string s, .int .i64 z, .slice a n c] 47)) := by
  unfold execOp
  simp only [ho, hx, Sem.run_bind, Sem.run_pure, Result.andThen_ok]
  go_simp
theorem news_three (W : World) (u0 u1 u2 : Value) (t : TypeId) : ∀ (j : Nat) (u : Value), [u0, u1, u2][j]? = some u → (W.alloc (.cells #[u0, u1, u2] t)).cell? ((⟨W.heap.size, 0, none⟩ : Addr).add j) = some u := by
  intro j u h
  rw [add_head, blkc (heap_alloc_new W _) j]
  simpa using h
set_option maxHeartbeats 4000000 in
theorem implMerge_bad (w : World) (sa : Option Addr) (sc : Nat) (ks : List (Tx × Bool)) (la : Option Addr) (lc : Nat) (L : List (List Fd)) (size : Int) (hS : HoldSK w sa ks) (hL : HoldFF w la L) (hkn : ks.length ≤ 1048576) (hLn : L.length ≤ 1048576) (hln : ∀ i, i < L.length → (L.getD i []).length ≤ 1048576) (hC : ¬ mhC (dsOf ks) L size = 0) :
    Calls Try.prog 9 #[.slice la L.length lc, .slice sa ks.length sc, .int .i64 size] w (MhAns (dsOf ks) L size w) := by
  have hb1 : Below w.heap.size w (w.alloc (.cells #[.int .i64 size] 3)) := (Below.refl _ _).alloc (Nat.le_refl _) _
  have HM := hidd (mcode_any (w.alloc (.cells #[.int .i64 size] 3)) sa sc ks la lc L size (hS.below hb1) (hL.below hb1) hkn hLn hln)
  have HB1 := hidd hb1
  have HLL : Hid (mhL (dsOf ks) L size = []) := by show _ = _; rw [mhL, if_neg hC]
  obtain ⟨N, hN⟩ : ∃ N, L.length = N := ⟨_, rfl⟩
  obtain ⟨kn, hkn2⟩ : ∃ n, ks.length = n := ⟨_, rfl⟩
  rw [hN, hkn2] at HM ⊢
  clear hS hL hkn hLn hln hb1 hN hkn2
  obtain ⟨C, hCe⟩ : ∃ C, mhC (dsOf ks) L size = C := ⟨_, rfl⟩
  have HC := hidd hCe
  rw [hCe] at HM hC
  clear hCe
  have hCb : (C != 0) = true := by simp [hC]
  go_enter Try.func9, Try.ntmps9
  go_wp2_with fail
  refine HM.out.mono ?_
  rintro e w1 ⟨rfl, hb1⟩
  have HB2 := hidd (HB1.out.trans (hb1.mono HB1.out.size))
  clear hb1 HB1 HM
  go_wp2_with fail
  refine bodyPost_ret (v := .tuple #[.slice none 0 0, .int .i64 C]) (by simp [results, Try.results9, go_sem]) rfl ?_
  refine ⟨none, 0, 0, [], by rw [HC.out], ?_, HB2.out⟩
  rw [HLL.out]
  exact AnsF.nil _ _ _
set_option maxHeartbeats 8000000 in
theorem implMerge_ok (w : World) (sa : Option Addr) (sc : Nat) (ks : List (Tx × Bool)) (la : Option Addr) (lc : Nat) (L : List (List Fd)) (size : Int) (hS : HoldSK w sa ks) (hL : HoldFF w la L) (hkn : ks.length ≤ 1048576) (hLn : L.length ≤ 1048576) (hln : ∀ i, i < L.length → (L.getD i []).length ≤ 1048576) (hid : ∀ i f, f ∈ L.getD i [] → f.1.length ≤ 1048576) (hC0 : mhC (dsOf ks) L size = 0) :
    Calls Try.prog 9 #[.slice la L.length lc, .slice sa ks.length sc, .int .i64 size] w (MhAns (dsOf ks) L size w) := by
  have hb1 : Below w.heap.size w (w.alloc (.cells #[.int .i64 size] 3)) := (Below.refl _ _).alloc (Nat.le_refl _) _
  have HM := hidd (mcode_any (w.alloc (.cells #[.int .i64 size] 3)) sa sc ks la lc L size (hS.below hb1) (hL.below hb1) hkn hLn hln)
  have HS := hidd hS
  have HL := hidd hL
  have HId := hidd hid
  have HB1 := hidd hb1
  have HZ1 := hidd (heap_alloc_new w (.cells #[.int .i64 size] 3))
  obtain ⟨N, hN⟩ : ∃ N, L.length = N := ⟨_, rfl⟩
  have HN := hidd hN
  obtain ⟨kn, hkn2⟩ : ∃ n, ks.length = n := ⟨_, rfl⟩
  have HKn := hidd hkn2
  rw [hN, hkn2] at HM ⊢
  clear hS hL hkn hLn hln hid hb1 hN hkn2
  refine (callsIn_wide (n := 4)).1 ?_
  refine callsIn_of_wp_marks Try.func9 rfl trivial ?_ rfl
  simp only [Try.ntmps9, List.size_toArray, List.length_cons, List.length_nil, Nat.reduceAdd, Nat.reduceSub, Array.replicate_succ, Array.replicate_zero, List.push_toArray, List.append_toArray, List.nil_append, List.cons_append]
  refine wpIn_wide.2 ?_
  have HC := hidd hC0
  rw [hC0] at HM
  clear hC0
  have hCb : ((0 : Int) != 0) = false := by simp
  go_wp2_with fail
  refine HM.out.mono ?_
  rintro e w1 ⟨rfl, hb1⟩
  have HB2 := hidd (HB1.out.trans (hb1.mono HB1.out.size))
  have HZ2 := hidd (blko HZ1.out hb1)
  clear hb1 HB1 HZ1 HM
  obtain ⟨k1, k2, k3, k4, k5, k6⟩ := mhC_ok HC.out
  obtain ⟨NS, rfl⟩ : ∃ NS : Nat, size = (NS : Int) := ⟨size.toNat, by omega⟩
  have HLL : Hid (mhL (dsOf ks) L (NS : Int) = mrgM (dsOf ks) NS L) := by show _ = _; rw [mhL, if_pos HC.out]; simp
  have hdl : (dsOf ks).length = ks.length := by rw [dsOf, List.length_map]
  have HOK : Hid (LOK ks.length L) := ⟨k2, fun i f hf => by have := oddK_no k6 i f hf; rw [this, hdl]⟩
  have H16 := hidd k1
  have HK4 : Hid (ks.length ≤ 4) := by show _ ≤ _; omega
  have HNS : Hid (NS ≤ 1000) := by show _ ≤ _; omega
  clear k1 k2 k3 k4 k5 k6 hdl
  go_wp2_with fail
  refine (mergedF_any _ _ _ _ _ _ _).mono ?_
  rintro e w2 ⟨rfl, hw2⟩
  obtain ⟨bf, hbf⟩ : ∃ b, w1.heap.size = b := ⟨_, rfl⟩
  have hb1 : Below w1.heap.size w1 (w1.alloc (.cells #[.slice none 0 0] 26)) := (Below.refl _ _).alloc (Nat.le_refl _) _
  have hs1 : (w1.alloc (.cells #[.slice none 0 0] 26)).heap.size = bf + 1 := by rw [← hbf]; simp
  have hb2 : Below (bf + 1) (w1.alloc (.cells #[.slice none 0 0] 26)) w2 := by rw [hw2, ← hs1]; exact ((Below.refl _ _).alloc (Nat.le_refl _) _).alloc (by simp) _
  have h2b := box_two (w1.alloc (.cells #[.slice none 0 0] 26)) (.cells #[.slice sa kn sc] 52) (.cells #[.slice la N lc] 29)
  rw [← hw2, hs1] at h2b
  have hs2 : w2.heap.size = bf + 3 := by rw [hw2]; simp; omega
  have hbx : w2.heap[bf]? = some (.cells #[.slice none 0 0] 26) := by
    rw [hb2.block bf (by omega), ← hbf]; exact heap_alloc_new w1 _
  have HB3 : Hid (Below w.heap.size w w2) := HB2.out.trans ((hb1.trans (hb2.mono (by omega))).mono HB2.out.size)
  have hz2 : w2.heap[w.heap.size]? = some (.cells #[.int .i64 (NS : Int)] 3) := by
    have hlt := (Array.getElem?_eq_some_iff.1 HZ2.out).1
    rw [hb2.block _ (by omega), hb1.block _ hlt]; exact HZ2.out
  have hlw : w.heap.size < bf := by rw [← hbf]; exact (Array.getElem?_eq_some_iff.1 HZ2.out).1
  rw [hs1, hbf]
  have HZ3 := hidd hz2
  have HBx := hidd hbx
  have H2b := hidd h2b
  have HS2 := hidd hs2
  clear hb1 hb2 h2b hs2 hbx hz2 hw2 hs1 hbf HZ2 HB2
  go_wp2_with fail
  refine (wpIn_wide (n := 4)).1 ?_
  apply range_brk (α := List Fd × List (List Fd)) (β := Yv) 0 (gf := 41) (lb := #[.pointer (some ⟨bf + 1, 0, none⟩), .pointer (some ⟨bf + 1 + 1, 0, none⟩)]) (I := fun x W => MhI w bf (bf + 5) NS (dsOf ks) L x W ∧ (∀ i f, f ∈ x.2.getD i [] → f.1.length ≤ 1048576)) (S := fun W => ∃ x, MhI w bf (bf + 5) NS (dsOf ks) L x W ∧ x.1.length = NS) (T := MhT w ks) (Fr := MhFr w.heap.size) (fin := fun x => ∀ i, i < x.2.length → x.2.getD i [] = []) (x0 := ([], L)) (args := yvA) (aW := yvW)
  case hassign =>
    intro l m x v y W K hT hK
    unfold yvA
    unfold yvW at hK
    gi_wp2
    exact hK
  case hg => rfl
  case eg => exact enters_of Try.func41 (by kernel_rfl) rfl
  case hps => intro x v y _; rfl
  case hput =>
    rintro x W o ⟨h1, h2⟩
    have := HS2.out
    exact ⟨h1.put o (by omega) (by omega), h2⟩
  case hputS =>
    rintro W o ⟨x, h1, h2⟩
    have := HS2.out
    exact ⟨x, h1.put o (by omega) (by omega), h2⟩
  case hFt => exact fun a b c h k => h.trans k
  case hFp =>
    intro W r o h
    have := HS2.out
    exact MhFr.put o h (by omega)
  case h0 =>
    intro W1 hb hs
    refine ⟨⟨HB3.out.trans (hb.mono HB3.out.size), ⟨.slice none 0 0, [], blko HBx.out hb, AnsF.nil _ _ _⟩, blko HZ3.out hb, hlw, by omega, by simp, Nat.zero_le _⟩, HId.out⟩
  case hAW =>
    rintro x v y W hT ⟨h1, h2⟩ hlt
    have hb : Below W.heap.size W (yvW v W) := (Below.refl _ _).alloc (Nat.le_refl _) _
    have hbw := h1.bel.size
    refine ⟨⟨h1.mv (MvT.of_below hb), h2⟩, ⟨hb.mono hbw, fun z cs t hz _ => (hb.block z (Array.getElem?_eq_some_iff.1 hz).1).trans hz⟩, fun z hz => hb.block z (by omega)⟩
  case hit =>
    intro r W1 hb hY hI hrec
    obtain ⟨hI1, hid1⟩ := hI
    have h2b := H2b.out
    have e1 : W1.cell? ⟨bf + 1, 0, none⟩ = some (.slice sa ks.length sc) := by rw [HKn.out]; exact blkc (blko h2b.1 hb) 0
    have e2 : W1.cell? ⟨bf + 1 + 1, 0, none⟩ = some (.slice la L.length lc) := by rw [HN.out]; exact blkc (blko h2b.2 hb) 0
    refine (merged_any (w2.heap.size + 1) (bf + 1) (bf + 1 + 1) (w0 := w) HK4.out HS.out HL.out H16.out HOK.out (fun L' W => ∃ out, (MhI w bf (bf + 5) NS (dsOf ks) L (out, L') W ∧ (∀ i f, f ∈ L'.getD i [] → f.1.length ≤ 1048576)) ∧ RecAt w2.heap.size r W) (fun W => (∃ x, MhI w bf (bf + 5) NS (dsOf ks) L x W ∧ x.1.length = NS) ∧ RecAt w2.heap.size (stopL r 0) W) ?_ ?_ ?_ W1 ⟨[], ⟨hI1, hid1⟩, hrec⟩ e1 e2).mono ?_
    · rintro L' W W' ⟨out, ⟨h1, h2⟩, h3⟩ hm
      refine ⟨out, ⟨h1.mv hm, h2⟩, ?_, ?_⟩
      · exact (hm.block _ (Array.getElem?_eq_some_iff.1 h3.rc).1 (fun ⟨_, cs, t, h4, _⟩ => by rw [h3.rc] at h4; cases h4)).trans h3.rc
      · exact (hm.block _ (Array.getElem?_eq_some_iff.1 h3.df).1 (fun ⟨_, cs, t, h4, _⟩ => by rw [h3.df] at h4; cases h4)).trans h3.df
    · rintro L' W ⟨out, ⟨h1, h2⟩, h3⟩
      exact h1.bel
    · rintro L' b fa fc W hbest hz hkl ⟨out, ⟨h1, h2⟩, h3⟩
      obtain ⟨fn, tm, asg, bd, q1, q2⟩ := hY 2 (out, L') (hitM L' b, fa, fc) (out ++ [hitM L' b], L'.set b (L'.getD b []).tail) W ⟨b, hbest, rfl, hz, hkl, rfl⟩ ⟨h1, h2⟩ h3
      refine ⟨fn, tm, asg, bd, q1, q2.mono ?_⟩
      rintro e W' (⟨rfl, ⟨p1, p2⟩, p3, p4⟩ | ⟨rfl, p1, p2⟩)
      · exact Or.inl ⟨rfl, ⟨_, ⟨p1, p2⟩, p4⟩, p3.1, p3.2⟩
      · exact Or.inr ⟨rfl, p1, p2⟩
    · rintro e W' ⟨h1, h2⟩
      refine ⟨h1, ?_⟩
      rcases h2 with ⟨L', h3, out, h4, h5⟩ | ⟨h3, h4⟩
      · exact Or.inl ⟨(out, L'), h3, h4, h5⟩
      · exact Or.inr ⟨h3, h4⟩
  case hbody =>
    rintro m ⟨out, Lx⟩ ⟨f, fa, fc⟩ y W o ⟨b, hbest, hhit, hz, hkl, rfl⟩ ⟨hI, hid⟩ hlt
    dsimp only at hbest hhit hz hkl hid
    subst hhit
    have hs2 := HS2.out
    have HLT : Hid (w2.heap.size + 1 < W.heap.size) := hlt
    have hb1 : Below W.heap.size W (yvW (hitM Lx b, fa, fc) W) := (Below.refl _ _).alloc (Nat.le_refl _) _
    have hI2 : MhI w bf (bf + 5) NS (dsOf ks) L (out, Lx) ((yvW (hitM Lx b, fa, fc) W).putObj (w2.heap.size + 1) o) := (hI.mv (MvT.of_below hb1)).put o (by omega) (by omega)
    have hbox : ((yvW (hitM Lx b, fa, fc) W).putObj (w2.heap.size + 1) o).heap[W.heap.size]? = some (.cells #[.string (bs (hitM Lx b).1), .int .i64 (hitM Lx b).2.1, .slice fa (hitM Lx b).2.2.length fc] 47) := (World.putObj_heap_other (by omega)).trans (heap_alloc_new W _)
    have hsz2 : W.heap.size < ((yvW (hitM Lx b, fa, fc) W).putObj (w2.heap.size + 1) o).heap.size := (Array.getElem?_eq_some_iff.1 hbox).1
    have hidb : (hitM Lx b).1.length ≤ 1048576 := by
      refine hid b _ ?_
      have hne := hbest.2.1
      unfold hitM
      cases e : Lx.getD b [] with
      | nil => exact absurd e hne
      | cons p q => simp
    have hA1 : ∀ b, b ≤ w2.heap.size + 1 → (b = w2.heap.size ∨ b = w2.heap.size + 1) → b ≠ bf ∧ b < bf + 5 := fun b _ h => by omega
    generalize (yvW (hitM Lx b, fa, fc) W).putObj (w2.heap.size + 1) o = W2 at *
    obtain ⟨hbk, hhb⟩ : ∃ k, W.heap.size = k := ⟨_, rfl⟩
    rw [hhb] at hbox hsz2
    rw [hhb] at HLT
    try simp only [hhb]
    obtain ⟨v, xs, hfb, hA⟩ := hI2.first
    have hsb := hI2.sz
    obtain ⟨va, vn, vc, rfl⟩ : ∃ a n c, v = .slice a n c := by
      rcases hA.row.2 with ⟨h1, h2⟩ | ⟨g, cap, cur, h1, _⟩
      · exact ⟨none, 0, 0, h1⟩
      · exact ⟨_, _, _, h1⟩
    have hvn : vn = out.length := hA.hold.1
    obtain ⟨NO, hNO⟩ : ∃ n, out.length = n := ⟨_, rfl⟩
    have HNO := hidd hNO
    rw [hNO] at hvn
    subst hvn
    have c0 : W2.cell? ⟨bf, 0, none⟩ = some (.slice va vn vc) := blkc hfb 0
    have c1 : W2.cell? ⟨w.heap.size, 0, none⟩ = some (.int .i64 (NS : Int)) := blkc hsb 0
    have HI2 := hidd hI2
    have HBest := hidd hbest
    have HHz := hidd hz
    have HBox := hidd hbox
    have HFb := hidd hfb
    have HA := hidd hA
    have HIdb := hidd hidb
    have HKl2 := hidd hkl
    have Hid2 := hidd hid
    have HSz2 := hidd hsz2
    have hle : vn ≤ NS := by have := HI2.out.le; rw [HNO.out] at this; exact this
    clear hI hI2 hbest hz hbox hfb hA hidb hkl hid hsz2 hsb hb1 hlt hNO hA1
    by_cases hfull : vn = NS
    · have hfb2 : ((vn : Int) == (NS : Int)) = true := by simp [hfull]
      have HFu := hidd hfull
      clear hfull
      gi_wp2_with fail
      exact ⟨out, ⟨Lx, HI2.out⟩, HNO.out.trans HFu.out⟩
    · have hfb2 : ((vn : Int) == (NS : Int)) = false := by simp; omega
      have hltN : vn < NS := by omega
      clear hfull
      gi_wp2_with fail
      have hmix : Try.prog.follows .mixedOrders = true := by kernel_rfl
      obtain ⟨i0, hi, hz0, hz1, hz2⟩ := info_parts Try.infoFd
      refine region_roundE (fun V => V.cell? ⟨bf, 0, none⟩ = some (.slice va vn vc) ∧ V.cell? ⟨hbk, 0, none⟩ = some (.string (bs (hitM Lx b).1)) ∧ V.cell? ⟨hbk, 1, none⟩ = some (.int .i64 (hitM Lx b).2.1) ∧ V.cell? ⟨hbk, 2, none⟩ = some (.slice fa (hitM Lx b).2.2.length fc)) 4 hmix (by kernel_rfl) ?lo ?go
      case lo =>
        rintro ⟨_, _, h, _⟩
        rcases h with h | h
        · cases h.1
        · cases h.1
      case go =>
        have hbd : Below W2.heap.size W2 W2.drew := (Below.refl _ _).drew
        obtain ⟨Wd, hWd⟩ : ∃ Wd, W2.drew = Wd := ⟨_, rfl⟩
        rw [hWd] at hbd
        rw [hWd]
        have hId := HI2.out.mv (MvT.of_below hbd)
        have hfd := blko HFb.out hbd
        have hbxd := blko HBox.out hbd
        have hszd : Wd.heap.size = W2.heap.size := by rw [← hWd]; rfl
        have hAd : AnsF Wd (bf + 5) Wd.heap.size (.slice va vn vc) out xs := by
          rw [hszd]
          exact HA.out.keep fun b cs t _ hb _ _ => hbd.block b hb
        have HbD := hidd hbd
        clear hWd hbd c0 c1 hfb2
        have cell0 : ∀ V : World, Below Wd.heap.size Wd V → V.cell? ⟨bf, 0, none⟩ = some (.slice va vn vc) ∧ V.cell? ⟨hbk, 0, none⟩ = some (.string (bs (hitM Lx b).1)) ∧ V.cell? ⟨hbk, 1, none⟩ = some (.int .i64 (hitM Lx b).2.1) ∧ V.cell? ⟨hbk, 2, none⟩ = some (.slice fa (hitM Lx b).2.2.length fc) := fun V hV => ⟨blkc (blko hfd hV) 0, blkc (blko hbxd hV) 0, blkc (blko hbxd hV) 1, blkc (blko hbxd hV) 2⟩
        have HCop := hidd (copied_any Wd (hitM Lx b) fa fc (HHz.out.below hId.bel) (by rw [HKl2.out]; have := HK4.out; omega) HIdb.out)
        try simp only [Act.put, List.getElem_toArray, List.getElem_cons_succ, List.getElem_cons_zero, List.setIfInBounds_toArray, List.set_cons_zero, List.set_cons_succ]
        refine ekL 0 [4] (v := .slice va vn vc) (hx := fun u hu => exec_loadSl u _ _ _ rfl bf 0 va vn vc (by kernel_rfl) hu.1) (hS := cell0 _ (Below.refl _ _)) (h := ?_)
        try simp only [Act.put, List.getElem_toArray, List.getElem_cons_succ, List.getElem_cons_zero, List.setIfInBounds_toArray, List.set_cons_zero, List.set_cons_succ]
        refine ekL 1 [2, 3, 4] (v := .agg #[.string (bs (hitM Lx b).1), .int .i64 (hitM Lx b).2.1, .slice fa (hitM Lx b).2.2.length fc]) (hx := fun u hu => exec_loadFd u _ _ _ rfl hbk (bs (hitM Lx b).1) (hitM Lx b).2.1 fa (hitM Lx b).2.2.length fc (by kernel_rfl) hu.2.1 hu.2.2.1 hu.2.2.2) (hS := cell0 _ (Below.refl _ _)) (h := ?_)
        try simp only [Act.put, List.getElem_toArray, List.getElem_cons_succ, List.getElem_cons_zero, List.setIfInBounds_toArray, List.set_cons_zero, List.set_cons_succ]
        refine wpAnyE_one 2 (by kernel_rfl) ?_
        refine wpOp_call 24 #[.agg #[.string (bs (hitM Lx b).1), .int .i64 (hitM Lx b).2.1, .slice fa (hitM Lx b).2.2.length fc]] rfl (by kernel_rfl) (rbx_call1 _ _ _ _ _ _ rfl _ (by kernel_rfl) (Try.call24 _ _)) ?_
        refine HCop.out.mono ?_
        rintro e V1 ⟨ka, kn', kc, rfl, hko, hb1⟩
        refine ⟨Or.inr (cell0 _ hb1), ?_⟩
        try simp only [Act.put, List.getElem_toArray, List.getElem_cons_succ, List.getElem_cons_zero, List.setIfInBounds_toArray, List.set_cons_zero, List.set_cons_succ]
        refine wpAnyE_one 3 (by kernel_rfl) ?_
        refine wpOp_val (.slice (some ⟨V1.heap.size, 0, none⟩) 1 1) (V1.alloc (.cells #[.string (bs (hitM Lx b).1), .int .i64 (hitM Lx b).2.1, .slice ka kn' kc] 47)) rfl (by kernel_rfl) (exec_buildFs V1 _ _ _ rfl (bs (hitM Lx b).1) (hitM Lx b).2.1 ka kn' kc (by kernel_rfl)) ?_
        refine ⟨Or.inr (cell0 _ (hb1.alloc hb1.size _)), ?_⟩
        try simp only [Act.put, List.getElem_toArray, List.getElem_cons_succ, List.getElem_cons_zero, List.setIfInBounds_toArray, List.set_cons_zero, List.set_cons_succ]
        have hlo : bf + 5 ≤ Wd.heap.size := by have := HSz2.out; have := HLT.out; omega
        refine wpAnyE_one 4 (by kernel_rfl) ?_
        refine wpOp_wp rfl (by kernel_rfl) ?_
        have hrow1 : (V1.alloc (.cells #[.string (bs (hitM Lx b).1), .int .i64 (hitM Lx b).2.1, .slice ka kn' kc] 47)).ownsRow (bf + 5) 47 3 (.slice va vn vc) out.length xs := own_congr hAd.row fun q hq => (hb1.alloc hb1.size _).block q (hAd.row.lt q hq).2
        refine wp_append_lies _ (.tmp 28) (.tmp 31) 26 rfl (bf + 5) 47 i0 _ 3 48 Try.underlying26 hi hz0 hz1 hz2 rfl (by decide) (.slice va vn vc) out.length xs (by kernel_rfl) hrow1 ⟨V1.heap.size, 0, none⟩ 1 1 [.string (bs (hitM Lx b).1), .int .i64 (hitM Lx b).2.1, .slice ka kn' kc] (by kernel_rfl) rfl (news_three V1 _ _ _ _) (by intro u' hu'; simp at hu'; rcases hu' with rfl | rfl | rfl <;> rfl) (by have := HNO.out; have := HNS.out; omega) (by unfold maxLen; have := HNO.out; have := HNS.out; omega) (by have := HNO.out; have := HNS.out; omega) (by have := hb1.size; simp; omega) _ rfl ?_
        intro g6 cp6 w6 hown6 hgrow6 hat6 hlt6
        have hpush := hId.push hfd hAd HBest.out (by rw [HNO.out]; exact hltN) hlo hb1 hko hown6 hgrow6
        obtain ⟨p1, p2, p3, p4⟩ := hpush
        refine ⟨Or.inl (by kernel_rfl), ?_⟩
        try simp only [Act.put, List.getElem_toArray, List.getElem_cons_succ, List.getElem_cons_zero, List.setIfInBounds_toArray, List.set_cons_zero, List.set_cons_succ]
        refine wpAnyE_one 5 (by kernel_rfl) ?_
        refine wpOp_skip _ rfl (by kernel_rfl) (exec_storeSl w6 _ _ _ _ rfl bf 0 (some ⟨g6, 0, none⟩) (out.length + 1) cp6 _ (by kernel_rfl) (by kernel_rfl) (blkc p1 0) (blkf p1 0)) ?_
        refine ⟨Or.inl (by kernel_rfl), ?_⟩
        try simp only [Act.put, List.getElem_toArray, List.getElem_cons_succ, List.getElem_cons_zero, List.setIfInBounds_toArray, List.set_cons_zero, List.set_cons_succ]
        refine wpAnyE_done (by kernel_rfl) ?_ _
        have hq1 : ∀ q, q = w2.heap.size ∨ q = w2.heap.size + 1 → (w6.setCell ⟨bf, 0, none⟩ (.slice (some ⟨g6, 0, none⟩) (out.length + 1) cp6)).heap[q]? = W2.heap[q]? := fun q hq => by
          have h5 := HLT.out
          have h6 := HSz2.out
          rw [p4 q (by omega) (by omega) (fun e => by have := (hAd.row.lt q e).1; omega)]
          exact HbD.out.block q (by omega)
        have hids : ∀ i f, f ∈ (Lx.set b (Lx.getD b []).tail).getD i [] → f.1.length ≤ 1048576 := fun i f hf => by
          by_cases e : i = b
          · subst e
            rw [setD_same _ HBest.out.1] at hf
            exact Hid2.out i f (List.mem_of_mem_tail hf)
          · rw [setD_other _ e] at hf
            exact Hid2.out i f hf
        refine ⟨Or.inl ⟨rfl, ⟨p2, hids⟩, ?_⟩, hq1 _ (Or.inl rfl), hq1 _ (Or.inr rfl)⟩
        have hf0 : MhFr w.heap.size W2 Wd := ⟨HbD.out.mono HI2.out.bel.size, fun z cs t hz _ => (HbD.out.block z (Array.getElem?_eq_some_iff.1 hz).1).trans hz⟩
        exact hf0.trans p3
  case hdone =>
    intro x Wx hfin hI hdf
    obtain ⟨hI, hid⟩ := hI
    have hout : x.1 = mrgM (dsOf ks) NS L := by
      have := hI.eq
      rw [mrgM_none hfin, List.append_nil] at this
      exact this
    obtain ⟨v, xs, h1, h2⟩ := hI.first
    obtain ⟨va, vn, vc, rfl⟩ : ∃ a n c, v = .slice a n c := by
      rcases h2.row.2 with ⟨h1, h2⟩ | ⟨g, cap, cur, h1, _⟩
      · exact ⟨none, 0, 0, h1⟩
      · exact ⟨_, _, _, h1⟩
    have k1 : Wx.cell? ⟨bf, 0, none⟩ = some (.slice va vn vc) := blkc h1 0
    have HZ2 : Hid (∀ w', AllBut Wx w' → Below w.heap.size Wx w' → MhAns (dsOf ks) L (NS : Int) w (.returned (.tuple #[.slice va vn vc, .int .i64 0])) w') := by
      intro w' hab hbw
      refine ⟨va, vn, vc, xs, by rw [HC.out], ?_, hI.bel.trans hbw⟩
      rw [HLL.out, ← hout]
      have h3 : AnsF w' (bf + 5) Wx.heap.size (.slice va vn vc) x.1 xs := h2.keep fun b cs t _ _ hc _ => hab.block b (by rw [hc]; intro e; cases e)
      exact (h3.mono hbw.size).lower (by omega)
    have Hdf := hidd hdf
    have hs2 := HS2.out
    clear h1 h2 hdf
    dsimp only
    go_wp2_with fail
    refine leaves_marks (B := w.heap.size) [w2.heap.size] _ _ ⟨by simp, fun D hD => ?_⟩ (AllBut.refl _) (Below.refl _ _) (fun w' hab hbw => ⟨.tuple #[.slice va vn vc, .int .i64 0], (by simp [results, Try.results9, go_sem]), HZ2.out w' hab hbw⟩)
    have : D = w2.heap.size := by simpa using hD
    subst this
    exact ⟨by omega, Hdf.out⟩
  case hbrk =>
    rintro Wx ⟨x, hI, hx⟩ hdf
    have hout : x.1 = mrgM (dsOf ks) NS L := by
      have := hI.eq
      rw [hx, Nat.sub_self, mrgM, List.append_nil] at this
      exact this
    obtain ⟨v, xs, h1, h2⟩ := hI.first
    obtain ⟨va, vn, vc, rfl⟩ : ∃ a n c, v = .slice a n c := by
      rcases h2.row.2 with ⟨h1, h2⟩ | ⟨g, cap, cur, h1, _⟩
      · exact ⟨none, 0, 0, h1⟩
      · exact ⟨_, _, _, h1⟩
    have k1 : Wx.cell? ⟨bf, 0, none⟩ = some (.slice va vn vc) := blkc h1 0
    have HZ2 : Hid (∀ w', AllBut Wx w' → Below w.heap.size Wx w' → MhAns (dsOf ks) L (NS : Int) w (.returned (.tuple #[.slice va vn vc, .int .i64 0])) w') := by
      intro w' hab hbw
      refine ⟨va, vn, vc, xs, by rw [HC.out], ?_, hI.bel.trans hbw⟩
      rw [HLL.out, ← hout]
      have h3 : AnsF w' (bf + 5) Wx.heap.size (.slice va vn vc) x.1 xs := h2.keep fun b cs t _ _ hc _ => hab.block b (by rw [hc]; intro e; cases e)
      exact (h3.mono hbw.size).lower (by omega)
    have Hdf := hidd hdf
    have hs2 := HS2.out
    clear h1 h2 hdf
    dsimp only
    go_wp2_with fail
    refine leaves_marks (B := w.heap.size) [w2.heap.size] _ _ ⟨by simp, fun D hD => ?_⟩ (AllBut.refl _) (Below.refl _ _) (fun w' hab hbw => ⟨.tuple #[.slice va vn vc, .int .i64 0], (by simp [results, Try.results9, go_sem]), HZ2.out w' hab hbw⟩)
    have : D = w2.heap.size := by simpa using hD
    subst this
    exact ⟨by omega, Hdf.out⟩
theorem implMerge_any (w : World) (sa : Option Addr) (sc : Nat) (ks : List (Tx × Bool)) (la : Option Addr) (lc : Nat) (L : List (List Fd)) (size : Int) (hS : HoldSK w sa ks) (hL : HoldFF w la L) (hkn : ks.length ≤ 1048576) (hLn : L.length ≤ 1048576) (hln : ∀ i, i < L.length → (L.getD i []).length ≤ 1048576) (hid : ∀ i f, f ∈ L.getD i [] → f.1.length ≤ 1048576) :
    Calls Try.prog 9 #[.slice la L.length lc, .slice sa ks.length sc, .int .i64 size] w (MhAns (dsOf ks) L size w) := by
  by_cases h : mhC (dsOf ks) L size = 0
  · exact implMerge_ok w sa sc ks la lc L size hS hL hkn hLn hln hid h
  · exact implMerge_bad w sa sc ks la lc L size hS hL hkn hLn hln h
end Go.Proofs.Ytcnjmjcbhelkhaa
