import Derived.Test.YtboocdiilbcdcaaDgRi
import Derived.Test.YtboocdiilbcdcaaDgT
import Derived.Test.YtboocdiilbcdcaaDgOi
import Derived.Test.YtboocdiilbcdcaaDgOs
import Derived.Test.YtboocdiilbcdcaaDgK
namespace Go.Proofs.Ytboocdiilbcdcaa
open Go
set_option linter.unusedVariables false

/-! What FnDigest asks, plain. -/
theorem cntLe_perm {a b : List Int} (h : a.Perm b) (v : Int) : cntLe a v = cntLe b v := (h.filter _).length_eq
theorem cntLe_app (a b : List Int) (v : Int) : cntLe (a ++ b) v = cntLe a v + cntLe b v := by simp [cntLe]
theorem up_cnt : ∀ {zs : List Int}, UpZ zs → ∀ (v : Int) (j : Nat), j < zs.length → (zs.getD j 0 ≤ v ↔ j < cntLe zs v)
  | [], _, v, j, hj => absurd hj (by simp)
  | x :: r, h, v, j, hj => by
    have h' := List.pairwise_cons.1 h
    by_cases hx : x ≤ v
    · have e : cntLe (x :: r) v = cntLe r v + 1 := by simp [cntLe, hx]
      rw [e]
      cases j with
      | zero => simp [hx]
      | succ j =>
        have := up_cnt h'.2 v j (by simpa using hj)
        simp only [List.getD_cons_succ]
        omega
    · have hall : ∀ y ∈ x :: r, ¬ y ≤ v := fun y hy => by
        rcases List.mem_cons.1 hy with rfl | hy
        · exact hx
        · have := h'.1 y hy; omega
      have e : cntLe (x :: r) v = 0 := by
        unfold cntLe
        rw [List.length_eq_zero_iff, List.filter_eq_nil_iff]
        intro y hy; simpa using hall y hy
      rw [e]
      have hm : (x :: r).getD j 0 ∈ x :: r := by
        rw [List.getD_eq_getElem?_getD, List.getElem?_eq_getElem hj]; exact List.getElem_mem _
      have := hall _ hm
      omega
theorem cntE_b {m s : Nat} (hs : 1 ≤ s) : m ≤ cntE m s * s ∧ cntE m s * s + 1 ≤ m + s := by
  unfold cntE
  have h1 : (m + s - 1) = s * ((m + s - 1) / s) + (m + s - 1) % s := (Nat.div_add_mod _ _).symm
  have h2 := Nat.mod_lt (m + s - 1) (show s > 0 by omega)
  rw [Nat.mul_comm ((m + s - 1) / s) s]
  omega
theorem cntE_mono {m n s : Nat} (h : m ≤ n) : cntE m s ≤ cntE n s := Nat.div_le_div_right (by omega)
theorem cntE_zero {s : Nat} (hs : 1 ≤ s) : cntE 0 s = 0 := Nat.div_eq_of_lt (by omega)
theorem cntE_pos {m s : Nat} (hs : 1 ≤ s) (hm : 1 ≤ m) : 1 ≤ cntE m s := by
  rcases Nat.eq_zero_or_pos (cntE m s) with h | h
  · have := (cntE_b (m := m) hs).1; rw [h] at this; omega
  · exact h
theorem cnt_evk {zs : List Int} {s : Nat} (hs : 1 ≤ s) (h : UpZ zs) (v : Int) : cntLe (evk s zs (cntE zs.length s)) v = cntE (cntLe zs v) s := by
  have hle := cntLe_le zs v
  apply cntLe_edge
  · rw [evk_len]; exact cntE_mono hle
  · intro t ht
    have ht2 : t < cntE zs.length s := Nat.lt_of_lt_of_le ht (cntE_mono hle)
    have e : (evk s zs (cntE zs.length s)).getD t 0 = zs.getD (t * s) 0 := by simp [evk, ht2]
    rw [e]
    exact (up_cnt h v _ ((cnt_lt hs t).1 ht2)).2 ((cnt_lt hs t).1 ht)
  · intro t ht ht2
    rw [evk_len] at ht2
    have e : (evk s zs (cntE zs.length s)).getD t 0 = zs.getD (t * s) 0 := by simp [evk, ht2]
    rw [e]
    intro hc
    have h1 := (up_cnt h v _ ((cnt_lt hs t).1 ht2)).1 hc
    have := (cnt_lt hs t).2 h1
    omega
theorem cnt_of (zs : List Int) {s : Nat} (hs : 1 ≤ s) (v : Int) : cntLe (evk s (srtZ zs) (cntE zs.length s)) v = cntE (cntLe zs v) s := by
  have h := cnt_evk hs (srtZ_up zs) v
  rw [srtZ_len] at h
  rw [h, cntLe_perm (srtZ_perm zs)]
/-- The bounds of one digest. -/
theorem rk_one {s n m : Nat} (hs : 1 ≤ s) (hm : m ≤ n) : rkLo s 1 (cntE m s) ≤ (m : Int) ∧ (m : Int) ≤ rkHi s n (cntE m s) ∧ (rkHi s n (cntE m s) - rkLo s 1 (cntE m s) < (s : Int) ∨ rkHi s n (cntE m s) ≤ 0) := by
  have hb := cntE_b (m := m) hs
  unfold rkLo rkHi
  rcases Nat.eq_zero_or_pos (cntE m s) with h0 | h0
  · rw [h0] at hb ⊢
    simp only [Nat.zero_mul] at hb
    simp
    omega
  · have e1 : min 1 (cntE m s) = 1 := by omega
    rw [e1]
    have e2 : ((cntE m s : Nat) : Int) * (s : Int) = ((cntE m s * s : Nat) : Int) := by simp
    rw [e2]
    generalize cntE m s * s = P at *
    omega
/-- The bounds of two that are joined. -/
theorem rk_two {s n ma mb : Nat} (hs : 1 ≤ s) (hm : ma + mb ≤ n) : rkLo s 2 (cntE ma s + cntE mb s) ≤ ((ma + mb : Nat) : Int) ∧ ((ma + mb : Nat) : Int) ≤ rkHi s n (cntE ma s + cntE mb s) := by
  have ha := cntE_b (m := ma) hs
  have hb := cntE_b (m := mb) hs
  unfold rkLo rkHi
  have e2 : ((cntE ma s + cntE mb s : Nat) : Int) * (s : Int) = ((cntE ma s * s + cntE mb s * s : Nat) : Int) := by
    rw [← Nat.add_mul]; simp
  rw [e2]
  rcases Nat.eq_zero_or_pos (cntE ma s) with h0 | h0
  · rw [h0] at ha ⊢
    simp only [Nat.zero_mul, Nat.zero_add] at ha ⊢
    rcases Nat.eq_zero_or_pos (cntE mb s) with h1 | h1
    · rw [h1] at hb ⊢
      simp only [Nat.zero_mul] at hb ⊢
      simp; omega
    · have hx : ((s : Int) - 1) * 1 ≤ ((s : Int) - 1) * ((min 2 (cntE mb s) : Nat) : Int) := Int.mul_le_mul_of_nonneg_left (by omega) (by omega)
      generalize ((s : Int) - 1) * ((min 2 (cntE mb s) : Nat) : Int) = X at *
      generalize cntE mb s * s = P at *
      omega
  · rcases Nat.eq_zero_or_pos (cntE mb s) with h1 | h1
    · rw [h1] at hb ⊢
      simp only [Nat.zero_mul, Nat.add_zero] at hb ⊢
      have hx : ((s : Int) - 1) * 1 ≤ ((s : Int) - 1) * ((min 2 (cntE ma s) : Nat) : Int) := Int.mul_le_mul_of_nonneg_left (by omega) (by omega)
      generalize ((s : Int) - 1) * ((min 2 (cntE ma s) : Nat) : Int) = X at *
      generalize cntE ma s * s = P at *
      omega
    · have e1 : min 2 (cntE ma s + cntE mb s) = 2 := by omega
      rw [e1]
      generalize cntE ma s * s = P at *
      generalize cntE mb s * s = R at *
      omega
/-- A list that has a digest. -/
structure OkL (zs : List Int) (s : Nat) : Prop where
  s1 : 1 ≤ s
  s2 : s ≤ 4096
  len : zs.length ≤ 4096
  num : PtN zs
  few : cntE zs.length s ≤ 512
def ptsZ (zs : List Int) (s : Nat) : List Int := evk s (srtZ zs) (cntE zs.length s)
theorem OkL.of {zs : List Int} {s : Nat} (h : OkL zs s) : ofZ zs (s : Int) = (((s : Int), 1, (zs.length : Int), ptsZ zs s), 0) := ofZ_ok (by have := h.len; omega) ⟨⟨by have := h.s1; omega, by have := h.s2; omega⟩, h.num⟩ (by have := h.few; omega)
theorem okL_of {zs : List Int} {t : Int} (h : (ofZ zs t).2 = 0) : ∃ s : Nat, t = (s : Int) ∧ OkL zs s := by
  unfold ofZ at h
  split at h
  · cases h
  · rename_i h1
    split at h
    · rename_i h2
      split at h
      · cases h
      · rename_i h3
        refine ⟨t.toNat, by omega, by omega, by omega, by omega, h2.2, by omega⟩
    · cases h
theorem OkL.take {zs : List Int} {s : Nat} (h : OkL zs s) (k : Nat) : OkL (zs.take k) s := by
  have hl : (zs.take k).length ≤ zs.length := by simp; omega
  refine ⟨h.s1, h.s2, Nat.le_trans hl h.len, fun i hi => ?_, Nat.le_trans (cntE_mono hl) h.few⟩
  have := h.num i (by omega)
  have hk : i < k := by rw [List.length_take] at hi; omega
  simpa [List.getD_eq_getElem?_getD, List.getElem?_take, hk] using this
theorem OkL.drop {zs : List Int} {s : Nat} (h : OkL zs s) (k : Nat) : OkL (zs.drop k) s := by
  have hl : (zs.drop k).length ≤ zs.length := by simp
  refine ⟨h.s1, h.s2, Nat.le_trans hl h.len, fun i hi => ?_, Nat.le_trans (cntE_mono hl) h.few⟩
  simp at hi
  have := h.num (k + i) (by omega)
  simpa [List.getD_eq_getElem?_getD, List.getElem?_drop] using this
theorem mem_getD {zs : List Int} {j : Nat} (h : j < zs.length) : zs.getD j 0 ∈ zs := by
  rw [List.getD_eq_getElem?_getD, List.getElem?_eq_getElem h]; exact List.getElem_mem _
theorem ptN_of {zs : List Int} (h : PtN zs) : ∀ x ∈ zs, NumZ x := fun x hx => by
  obtain ⟨i, hi, rfl⟩ := List.mem_iff_getElem.1 hx
  have := h i hi
  rwa [List.getD_eq_getElem?_getD, List.getElem?_eq_getElem hi] at this
theorem pts_mem {zs : List Int} {s j : Nat} (hs : 1 ≤ s) (hj : j < cntE zs.length s) : (ptsZ zs s).getD j 0 ∈ zs := by
  have e : (ptsZ zs s).getD j 0 = (srtZ zs).getD (j * s) 0 := by simp [ptsZ, evk, hj]
  rw [e]
  have h2 := (cnt_lt (n := zs.length) hs j).1 hj
  exact (srtZ_perm zs).mem_iff.1 (mem_getD (by rw [srtZ_len]; exact h2))
theorem up_ptS {zs : List Int} (h : UpZ zs) : PtS zs := fun i hi => by
  have := List.pairwise_iff_getElem.1 h i (i + 1) (by omega) hi (by omega)
  simpa [List.getD_eq_getElem?_getD, hi, (by omega : i < zs.length)] using this
theorem pts_upS {zs : List Int} {s : Nat} (hs : 1 ≤ s) : UpZ (ptsZ zs s) := by
  rw [UpZ, List.pairwise_iff_getElem]
  intro i j hi hj hij
  have hi' : i < cntE zs.length s := by simpa [ptsZ, evk_len] using hi
  have hj' : j < cntE zs.length s := by simpa [ptsZ, evk_len] using hj
  have a1 := (cnt_lt (n := zs.length) hs i).1 hi'
  have a2 := (cnt_lt (n := zs.length) hs j).1 hj'
  have a3 : i * s < j * s := Nat.mul_lt_mul_of_pos_right hij (by omega)
  have := List.pairwise_iff_getElem.1 (srtZ_up zs) (i * s) (j * s) (by rw [srtZ_len]; exact a1) (by rw [srtZ_len]; exact a2) a3
  simpa [ptsZ, evk, List.getD_eq_getElem?_getD, srtZ_len, a1, a2] using this
theorem ptsZ_len (zs : List Int) (s : Nat) : (ptsZ zs s).length = cntE zs.length s := evk_len _ _ _
theorem OkL.dg {zs : List Int} {s : Nat} (h : OkL zs s) : DgOK (s : Int) 1 (zs.length : Int) (ptsZ zs s) := by
  have h1 := h.s1
  have h2 := h.s2
  have h3 := h.len
  have h4 := h.few
  refine ⟨?_, fun i hi => ?_, up_ptS (pts_upS h1)⟩
  · rw [ptsZ_len]
    have hle := cntE_le (n := zs.length) h1
    refine ⟨by omega, by omega, by omega, by omega, by omega, by omega, h4, by omega, ?_, ?_⟩
    · rw [cntE_eq h1]; omega
    · have e : (zs.length : Int) + 1 * ((s : Int) - 1) = (zs.length : Int) + (s : Int) - 1 := by omega
      rw [e, cntE_eq h1]; omega
  · rw [ptsZ_len] at hi
    exact ptN_of h.num _ (pts_mem h1 hi)
theorem cntE_add {a b s : Nat} (hs : 1 ≤ s) : cntE (a + b) s ≤ cntE a s + cntE b s := by
  have ha := cntE_b (m := a) hs
  have hb := cntE_b (m := b) hs
  rcases Nat.lt_or_ge (cntE a s + cntE b s) (cntE (a + b) s) with h | h
  · have := (cnt_lt (n := a + b) hs _).1 h
    rw [Nat.add_mul] at this
    omega
  · exact h
theorem joZ_ok {za zb : List Int} {s : Nat} (ha : OkL za s) (hb : OkL zb s) (hf : (ptsZ za s).length + (ptsZ zb s).length ≤ 512) :
    joZ (s : Int) 1 (za.length : Int) (ptsZ za s) (s : Int) 1 (zb.length : Int) (ptsZ zb s) = (((s : Int), 2, ((za.length + zb.length : Nat) : Int), srtZ (ptsZ za s ++ ptsZ zb s)), 0) := by
  have h1 := ha.len
  have h2 := hb.len
  unfold joZ
  rw [if_pos ⟨dgB_t ha.dg, dgB_t hb.dg⟩, if_pos ⟨rfl, by omega, by omega⟩, if_pos hf]
  simp
theorem joZ_many {za zb : List Int} {s : Nat} (ha : OkL za s) (hb : OkL zb s) (hf : ¬ (ptsZ za s).length + (ptsZ zb s).length ≤ 512) :
    joZ (s : Int) 1 (za.length : Int) (ptsZ za s) (s : Int) 1 (zb.length : Int) (ptsZ zb s) = ((0, 0, 0, []), 11) := by
  have h1 := ha.len
  have h2 := hb.len
  unfold joZ
  rw [if_pos ⟨dgB_t ha.dg, dgB_t hb.dg⟩, if_pos ⟨rfl, by omega, by omega⟩, if_neg hf]
theorem jo_dg {za zb : List Int} {s : Nat} (ha : OkL za s) (hb : OkL zb s) (hf : (ptsZ za s).length + (ptsZ zb s).length ≤ 512) :
    DgOK (s : Int) 2 ((za.length + zb.length : Nat) : Int) (srtZ (ptsZ za s ++ ptsZ zb s)) := by
  have h1 := ha.s1
  have h2 := ha.s2
  have h3 := ha.len
  have h4 := hb.len
  refine ⟨?_, fun i hi => ?_, up_ptS (srtZ_up _)⟩
  · rw [srtZ_len, List.length_append]
    rw [ptsZ_len, ptsZ_len] at hf ⊢
    have la := cntE_le (n := za.length) h1
    have lb := cntE_le (n := zb.length) h1
    have ba := cntE_b (m := za.length) h1
    have bb := cntE_b (m := zb.length) h1
    refine ⟨by omega, by omega, by omega, by omega, by omega, by omega, hf, by omega, ?_, ?_⟩
    · rw [cntE_eq h1]; have := cntE_add (a := za.length) (b := zb.length) h1; omega
    · apply Int.le_ediv_of_mul_le (by omega)
      have e : ((cntE za.length s + cntE zb.length s : Nat) : Int) * (s : Int) = ((cntE za.length s * s + cntE zb.length s * s : Nat) : Int) := by
        rw [← Nat.add_mul]; simp
      rw [e]
      omega
  · have hm := (srtZ_perm (ptsZ za s ++ ptsZ zb s)).mem_iff.1 (mem_getD hi)
    rcases List.mem_append.1 hm with hm | hm
    · obtain ⟨j, hj, e⟩ := List.mem_iff_getElem.1 hm
      rw [← e]
      have := ha.dg.2.1 j hj
      rwa [List.getD_eq_getElem?_getD, List.getElem?_eq_getElem hj] at this
    · obtain ⟨j, hj, e⟩ := List.mem_iff_getElem.1 hm
      rw [← e]
      have := hb.dg.2.1 j hj
      rwa [List.getD_eq_getElem?_getD, List.getElem?_eq_getElem hj] at this
/-- What DigestRank tells of one digest. -/
theorem OkL.rank {zs : List Int} {s : Nat} (h : OkL zs s) (v : Int) : ∃ lo hi : Int, rkZ (s : Int) 1 (zs.length : Int) (ptsZ zs s) v = (lo, hi, 0) ∧ lo ≤ ((cntLe zs v : Nat) : Int) ∧ ((cntLe zs v : Nat) : Int) ≤ hi ∧ (hi - lo < (s : Int) ∨ hi ≤ 0) ∧ 0 ≤ lo ∧ hi ≤ 4096 := by
  refine ⟨_, _, by unfold rkZ; rw [if_pos (dgB_t h.dg)], ?_⟩
  have e : cntLe (ptsZ zs s) v = cntE (cntLe zs v) s := cnt_of zs h.s1 v
  have e1 : (1 : Int).toNat = 1 := rfl
  rw [e, Int.toNat_natCast, Int.toNat_natCast, e1]
  have hr := rk_one (n := zs.length) h.s1 (cntLe_le zs v)
  refine ⟨hr.1, hr.2.1, hr.2.2, ?_, ?_⟩
  · obtain ⟨m1, m2, a1, a2, a3, a4⟩ := rk_nums s 1 (cntE (cntLe zs v) s) h.s1 h.s2 (Nat.le_trans (cntE_mono (cntLe_le zs v)) h.few)
    unfold rkLo
    rw [a1, a2]
    omega
  · have := h.len; unfold rkHi; omega
/-- What it tells of two that are joined. -/
theorem rank_two {za zb : List Int} {s : Nat} (ha : OkL za s) (hb : OkL zb s) (hf : (ptsZ za s).length + (ptsZ zb s).length ≤ 512) (v : Int) :
    ∃ lo hi : Int, rkZ (s : Int) 2 ((za.length + zb.length : Nat) : Int) (srtZ (ptsZ za s ++ ptsZ zb s)) v = (lo, hi, 0) ∧ lo ≤ ((cntLe (za ++ zb) v : Nat) : Int) ∧ ((cntLe (za ++ zb) v : Nat) : Int) ≤ hi := by
  refine ⟨_, _, by unfold rkZ; rw [if_pos (dgB_t (jo_dg ha hb hf))], ?_⟩
  have e : cntLe (srtZ (ptsZ za s ++ ptsZ zb s)) v = cntE (cntLe za v) s + cntE (cntLe zb v) s := by
    rw [cntLe_perm (srtZ_perm _), cntLe_app]
    have e1 : cntLe (ptsZ za s) v = cntE (cntLe za v) s := cnt_of za ha.s1 v
    have e2 : cntLe (ptsZ zb s) v = cntE (cntLe zb v) s := cnt_of zb ha.s1 v
    rw [e1, e2]
  have e1 : (2 : Int).toNat = 2 := rfl
  rw [e, Int.toNat_natCast, Int.toNat_natCast, e1, cntLe_app]
  exact rk_two ha.s1 (by have := cntLe_le za v; have := cntLe_le zb v; omega)
/-- What DigestAt tells. -/
theorem OkL.at0 {s : Nat} {zs : List Int} (h : OkL zs s) (h0 : zs.length = 0) (t : Nat) (ht : t ≤ 100) : datZ (s : Int) 1 (zs.length : Int) (ptsZ zs s) (t : Int) = (0, 8) := by
  unfold datZ
  rw [if_pos (dgB_t h.dg), if_pos (by omega), if_pos (by omega)]
theorem OkL.at1 {s : Nat} {zs : List Int} (h : OkL zs s) (h0 : zs.length ≠ 0) (t : Nat) (ht : t ≤ 100) : ∃ x ∈ zs, datZ (s : Int) 1 (zs.length : Int) (ptsZ zs s) (t : Int) = (x, 0) := by
  unfold datZ
  rw [if_pos (dgB_t h.dg), if_pos (by omega), if_neg (by omega)]
  refine ⟨_, ?_, rfl⟩
  have h1 := cntE_pos (m := zs.length) h.s1 (by omega)
  have h3 := h.few
  obtain ⟨n1, m, X, a1, a2, a3, a4, a5, a6⟩ := dat_nums t (cntE zs.length s) ht h1 h3
  rw [ptsZ_len, Int.toNat_natCast, a6]
  exact pts_mem h.s1 a5
end Go.Proofs.Ytboocdiilbcdcaa
