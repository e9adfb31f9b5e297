import Derived.Test.YtibomnmgiimejadPkUc
import Derived.Test.YtibomnmgiimejadPkZ
namespace Go.Proofs.Ytibomnmgiimejad
open Go Go.RowKit
set_option linter.unusedVariables false

theorem unriseG_snoc (g : Nat) (a : List Nat) : ∀ nx, unriseG nx (a ++ [g]) = match unriseG nx a with
    | none => none
    | some us => if 4611686018427387903 < nxG nx us + g then none else some (us ++ [nxG nx us + g]) := by
  induction a with
  | nil => intro nx; simp only [List.nil_append, unriseG]; rfl
  | cons x t ih =>
    intro nx
    simp only [List.cons_append, unriseG]
    by_cases h : 4611686018427387903 < nx + x
    · rw [if_pos h, if_pos h]
    · rw [if_neg h, if_neg h, ih (nx + x + 1)]
      cases unriseG (nx + x + 1) t with
      | none => rfl
      | some us =>
        show (match (if 4611686018427387903 < nxG (nx + x + 1) us + g then none else some (us ++ [nxG (nx + x + 1) us + g])) with
          | none => none
          | some us' => some ((nx + x) :: us')) = (if 4611686018427387903 < nxG (nx + x + 1) us + g then none else some ((nx + x) :: us ++ [nxG (nx + x + 1) us + g]))
        by_cases h2 : 4611686018427387903 < nxG (nx + x + 1) us + g
        · rw [if_pos h2, if_pos h2]
        · rw [if_neg h2, if_neg h2]; rfl
theorem unriseG_none (b a : List Nat) : ∀ nx, unriseG nx a = none → unriseG nx (a ++ b) = none := by
  induction a with
  | nil => intro nx h; cases h
  | cons x t ih =>
    intro nx h
    simp only [List.cons_append, unriseG] at h ⊢
    by_cases h1 : 4611686018427387903 < nx + x
    · rw [if_pos h1]
    · rw [if_neg h1] at h ⊢
      cases hu : unriseG (nx + x + 1) t with
      | none => rw [ih _ hu]
      | some us => rw [hu] at h; cases h
theorem unriseG_62 (l : List Nat) : ∀ nx us, unriseG nx l = some us → nums62 us := by
  induction l with
  | nil => intro nx us h; cases h; intro v hv; simp at hv
  | cons x t ih =>
    intro nx us h
    simp only [unriseG] at h
    by_cases h1 : 4611686018427387903 < nx + x
    · rw [if_pos h1] at h; cases h
    · rw [if_neg h1] at h
      cases hu : unriseG (nx + x + 1) t with
      | none => rw [hu] at h; cases h
      | some ts =>
        rw [hu] at h
        cases h
        intro v hv
        rcases List.mem_cons.1 hv with rfl | hv
        · omega
        · exact ih _ _ hu v hv
theorem unrise_take (vs us : List Nat) (k : Nat) (h : k < vs.length) (hu : unriseG 0 (vs.take k) = some us) : unriseG 0 (vs.take (k + 1)) = if 4611686018427387903 < nxG 0 us + vs.getD k 0 then none else some (us ++ [nxG 0 us + vs.getD k 0]) := by
  rw [take_snocN vs k h, unriseG_snoc, hu]
theorem unrise_stop (vs : List Nat) (k : Nat) (hn : unriseG 0 (vs.take (k + 1)) = none) : unriseG 0 vs = none := by
  have e : vs = vs.take (k + 1) ++ vs.drop (k + 1) := (List.take_append_drop _ _).symm
  rw [e]; exact unriseG_none _ _ _ hn
theorem nxG_last (us : List Nat) (j : Nat) (h : us.length = j + 1) : nxG 0 us = us.getD j 0 + 1 := by
  have := nxG_take us j (by omega)
  rwa [List.take_of_length_le (by omega)] at this
theorem nxG_le (us : List Nat) (h : nums62 us) : nxG 0 us ≤ 4611686018427387904 := by
  by_cases h0 : us.length = 0
  · have : us = [] := List.length_eq_zero_iff.1 h0
    subst this; simp [nxG]
  · rw [nxG_last us (us.length - 1) (by omega)]
    have hm : us.getD (us.length - 1) 0 ∈ us := by rw [List.getD_eq_getElem?_getD, List.getElem?_eq_getElem (by omega : us.length - 1 < us.length)]; exact List.getElem_mem _
    have := h _ hm
    omega
/-- What UnpackRising tells. -/
def unriseOut (bs : List UInt8) : List Nat × Int :=
  if (unOut bs).2 = 0 then (match unriseG 0 (unOut bs).1 with
    | none => ([], 3)
    | some us => (us, 0)) else ([], (unOut bs).2)
theorem unriseOut_len (bs : List UInt8) : (unriseOut bs).1.length ≤ 4096 ∧ True := by
  refine ⟨?_, trivial⟩
  unfold unriseOut
  by_cases h : (unOut bs).2 = 0
  · rw [if_pos h]
    cases hu : unriseG 0 (unOut bs).1 with
    | none => simp
    | some us => rw [show (us, (0 : Int)).1 = us from rfl, unriseG_length _ _ _ hu]; exact (unOut_len bs).1
  · rw [if_neg h]; simp
theorem nCells_length (l : List Nat) : (nCells l).length = l.length := by simp [nCells]
theorem nCells_set (us vs : List Nat) (k x : Nat) (hu : us.length = k) (hk : k < vs.length) : (nCells us ++ (nCells vs).drop k).set k (.int .i64 (x : Int)) = nCells (us ++ [x]) ++ (nCells vs).drop (k + 1) := by
  have e : (nCells us).length = k := by rw [nCells_length, hu]
  rw [List.set_append_right _ _ (by omega), e, Nat.sub_self]
  have hd : (nCells vs).drop k = (nCells vs)[k]'(by rw [nCells_length]; exact hk) :: (nCells vs).drop (k + 1) := by rw [List.drop_eq_getElem_cons (by rw [nCells_length]; exact hk)]
  rw [hd, List.set_cons_zero, nCells_snoc, List.append_assoc]
  rfl
theorem nCells_at (us vs : List Nat) (k : Nat) (hu : us.length = k) (hk : k < vs.length) : (nCells us ++ (nCells vs).drop k)[k]? = some (.int .i64 (vs.getD k 0 : Nat)) := by
  have e : (nCells us).length = k := by rw [nCells_length, hu]
  rw [List.getElem?_append_right (by omega), e, Nat.sub_self, List.getElem?_drop]
  simp [nCells, hk]

set_option maxHeartbeats 2000000 in
set_option maxRecDepth 100000 in
theorem implUnpackRising_any (v : Value) (bs : List UInt8) (w : World) (hst : AnyStretch w v bs) :
    Calls Try.prog 15 #[v] w fun e w' => ∃ u, e = .returned (.tuple #[u, .int .i64 (unriseOut bs).2]) ∧ w'.ownsRow w.heap.size 3 1 u (unriseOut bs).1.length (nCells (unriseOut bs).1) ∧ Below w.heap.size w w' := by
  have HC := hidd (implUnpackInts_any v bs w hst)
  obtain ⟨hlen, h62⟩ := unOut_len bs
  have H62 := hidd h62
  have HE : Hid (unriseOut bs = if (unOut bs).2 = 0 then (match unriseG 0 (unOut bs).1 with
    | none => ([], 3)
    | some us => (us, 0)) else ([], (unOut bs).2)) := by show _ = _; rfl
  clear hst h62
  generalize (unOut bs).1 = vs at *
  generalize (unOut bs).2 = c at *
  go_enter Try.func15, Try.ntmps15
  go_wp2_with (first | (go_at_call 8; refine HC.out.mono ?_))
  rintro e w1 ⟨u, rfl, hown, hb⟩
  have HO1 := hidd hown
  have HB1 := hidd hb
  clear hown hb HC
  by_cases hc : c = 0
  · subst hc
    rw [if_pos rfl] at HE
    obtain ⟨ao, cp, rfl⟩ := own_shape HO1.out
    go_wp2
    go_loopw [6, 19] (fun lv iv wr => ∃ (k : Nat) (us : List Nat), k ≤ vs.length ∧ iv = .int .i64 (k : Int) ∧ lv = .int .i64 ((nxG 0 us : Nat) - 1 : Int) ∧ unriseG 0 (vs.take k) = some us ∧ wr.ownsRow w.heap.size 3 1 (.slice ao vs.length cp) vs.length (nCells us ++ (nCells vs).drop k) ∧ Below w.heap.size w wr) (fun _ iv _ => vs.length - (intOf iv).toNat)
    case atStart => exact ⟨0, [], Nat.zero_le _, rfl, rfl, rfl, by simpa [nCells] using HO1.out, HB1.out⟩
    case round =>
      clear HO1 HB1
      obtain ⟨k, us, hk, rfl, rfl, hr, hown, hbel⟩ := hrel
      have HR := hidd hr
      have HO := hidd hown
      have HB := hidd hbel
      have hul : us.length = k := by have := unriseG_length _ _ _ hr; rw [List.length_take] at this; omega
      have hnx := nxG_le us (unriseG_62 _ _ _ hr)
      clear hr hown hbel
      by_cases hlt : k < vs.length
      · rcases own_cases HO.out with ⟨hx, hy⟩ | ⟨g, cp', hx, _, _⟩
        · exfalso; omega
        cases hx
        have hvk := H62.out (vs.getD k 0) (by rw [List.getD_eq_getElem?_getD, List.getElem?_eq_getElem hlt]; exact List.getElem_mem _)
        have Hut := hidd (unrise_take vs us k hlt HR.out)
        have Hstop := hidd (unrise_stop vs k)
        have f1 := HO.out.frozenAt k
        have g1 : wr.cell? ⟨g, k, none⟩ = some (.int .i64 ((vs.getD k 0 : Nat) : Int)) := by rw [HO.out.cellAt k (by omega)]; exact nCells_at us vs k hul hlt
        generalize vs.getD k 0 = v at *
        generalize hnxe : nxG 0 us = nx at *
        by_cases hle : 4611686018427387903 < nx + v
        · have hlz : (4611686018427387903 : Int) < (nx : Int) + (v : Int) := by omega
          have HN : Hid (unriseG 0 vs = none) := Hstop.out (by rw [Hut.out, if_pos hle])
          go_wp2
          go_ret2
          rw [HE.out, HN.out]
          exact ⟨_, rfl, World.ownsRow_nil _ _ _ _, HB.out⟩
        · have hlz : ¬ (4611686018427387903 : Int) < (nx : Int) + (v : Int) := by omega
          rw [if_neg hle] at Hut
          have st := hidd (HO.out.stored k (.int .i64 ((nx + v : Nat) : Int)))
          have Hset := hidd (nCells_set us vs k (nx + v) hul hlt)
          have Hnl : Hid (nxG 0 (us ++ [nx + v]) = nx + v + 1) := nxG_snoc _ _ _
          clear HO
          go_wp2
          go_roundw
          case rel =>
            have h := st.out.1
            rw [Hset.out, show ((nx + v : Nat) : Int) = (nx : Int) - 1 + ((v : Int) + 1) from by omega] at h
            exact ⟨k + 1, us ++ [nx + v], by omega, by go_num, by rw [Hnl.out]; go_num, Hut.out, h, HB.out.setCell (p := ⟨g, k, none⟩) (own_block st.out.1 g rfl) _⟩
          case measure => simp [intOf]; omega
      · have HK : Hid (vs.take k = vs) := by show _ = _; rw [List.take_of_length_le (by omega)]
        rw [HK.out] at HR
        rw [HR.out] at HE
        obtain rfl : k = vs.length := by omega
        go_wp2
        go_ret2
        rw [HE.out]
        refine ⟨_, rfl, ?_, HB.out⟩
        have := HO.out
        rw [List.drop_of_length_le (by rw [nCells_length]; omega), List.append_nil] at this
        show World.ownsRow _ _ _ _ _ us.length (nCells us)
        rw [hul]
        exact this
  · rw [if_neg hc] at HE
    have hcz : (c != 0) = true := by simp [hc]
    go_wp2
    go_ret2
    rw [HE.out]
    exact ⟨_, rfl, World.ownsRow_nil _ _ _ _, HB1.out⟩
end Go.Proofs.Ytibomnmgiimejad
