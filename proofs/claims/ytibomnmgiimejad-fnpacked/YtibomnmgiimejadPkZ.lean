import Derived.Test.YtibomnmgiimejadPkI
import Derived.Test.YtibomnmgiimejadPkL
import Derived.Deep.AppendLies
import Derived.Deep.RegionLaw
namespace Go.Proofs.Ytibomnmgiimejad
open Go Go.RowKit
set_option linter.unusedVariables false

def nxG (nx : Nat) : List Nat → Nat
  | [] => nx
  | v :: t => nxG (v + 1) t
theorem nxG_snoc (l : List Nat) (v : Nat) : ∀ nx, nxG nx (l ++ [v]) = v + 1 := by
  induction l with
  | nil => intro nx; rfl
  | cons x t ih => intro nx; exact ih (x + 1)
theorem riseG_app (a b : List Nat) : ∀ nx, riseG nx (a ++ b) = (riseG nx a && riseG (nxG nx a) b) := by
  induction a with
  | nil => intro nx; simp [riseG, nxG]
  | cons x t ih => intro nx; simp only [List.cons_append, riseG, nxG, ih, Bool.and_assoc]
theorem gapsG_app (a b : List Nat) : ∀ nx, gapsG nx (a ++ b) = gapsG nx a ++ gapsG (nxG nx a) b := by
  induction a with
  | nil => intro nx; rfl
  | cons x t ih => intro nx; simp only [List.cons_append, gapsG, nxG, ih]
theorem take_snocN (vs : List Nat) (k : Nat) (h : k < vs.length) : vs.take (k + 1) = vs.take k ++ [vs.getD k 0] := by
  rw [List.take_succ_eq_append_getElem h]; simp [h]
theorem riseG_take (vs : List Nat) (k : Nat) (h : k < vs.length) : riseG 0 (vs.take (k + 1)) = (riseG 0 (vs.take k) && decide (nxG 0 (vs.take k) ≤ vs.getD k 0)) := by
  rw [take_snocN vs k h, riseG_app]; simp [riseG]
theorem gapsG_take (vs : List Nat) (k : Nat) (h : k < vs.length) : gapsG 0 (vs.take (k + 1)) = gapsG 0 (vs.take k) ++ [vs.getD k 0 - nxG 0 (vs.take k)] := by
  rw [take_snocN vs k h, gapsG_app]; rfl
theorem nxG_take (vs : List Nat) (k : Nat) (h : k < vs.length) : nxG 0 (vs.take (k + 1)) = vs.getD k 0 + 1 := by
  rw [take_snocN vs k h, nxG_snoc]
theorem riseG_stop (vs : List Nat) (k : Nat) (h : k < vs.length) (hn : riseG 0 (vs.take (k + 1)) = false) : riseG 0 vs = false := by
  have e : vs = vs.take (k + 1) ++ vs.drop (k + 1) := (List.take_append_drop _ _).symm
  rw [e, riseG_app, hn]; rfl

theorem Try.infoU64 : (Try.prog.info? 67).map (fun i => (i.zero, i.size, i.bytes)) = some (some (.int .u64 0), 1, 8) := by kernel_rfl
theorem u_set_step (l : List Nat) (k n x : Nat) (hl : l.length = k) (hk : k < n) :
    (uCells l ++ List.replicate (n - k) (Value.int .u64 0)).set k (.int .u64 (x : Int)) = uCells (l ++ [x]) ++ List.replicate (n - (k + 1)) (Value.int .u64 0) := by
  obtain ⟨m, hm⟩ : ∃ m, n - k = m + 1 := ⟨n - k - 1, by omega⟩
  have hm2 : n - (k + 1) = m := by omega
  have e : (uCells l).length = k := by rw [uCells_length, hl]
  rw [hm, hm2, List.replicate_succ, List.set_append_right _ _ (by omega), e, Nat.sub_self]
  simp [uCells]

set_option maxHeartbeats 2000000 in
set_option maxRecDepth 100000 in
theorem gapsOf_any (b off cap : Nat) (vs : List Nat) (w : World) (hl : vs.length ≤ 4096) (hv : nums62 vs) (hbw : b < w.heap.size) (hc : NumsAt .i64 w b off vs) :
    Calls Try.prog 40 #[.slice (some ⟨b, off, none⟩) vs.length cap] w fun e w' => Below w.heap.size w w' ∧
      ((riseG 0 vs = false ∧ e = .returned (.tuple #[.slice none 0 0, .bool false])) ∨ (riseG 0 vs = true ∧ e = .returned (.tuple #[.slice (some ⟨w.heap.size, 0, none⟩) vs.length vs.length, .bool true]) ∧ w'.ownsRow w.heap.size 67 1 (.slice (some ⟨w.heap.size, 0, none⟩) vs.length vs.length) vs.length (uCells (gapsG 0 vs)))) := by
  obtain ⟨i0, hi, hz0, hz1, hz2⟩ := info_parts Try.infoU64
  have Hc := hidd hc
  have Hv := hidd hv
  clear hc hv
  go_enter Try.func40, Try.ntmps40
  go_wp2_with (at_make; refine wpList_make_full _ rfl _ _ 63 rfl w.heap.size 67 i0 (.int .u64 0) 1 Try.underlying63 hi hz0 hz1 _ _ _ _ vs.length rfl rfl (by omega) (by omega) ?b2 ?b3 (Nat.le_refl _) ?_)
  case b2 => rw [hz2]; omega
  case b3 => unfold maxLen; omega
  intro w0 hown0 hgrow0
  have HO0 : Hid (w0.ownsRow w.heap.size 67 1 (.slice (some ⟨w.heap.size, 0, none⟩) vs.length vs.length) vs.length (uCells [] ++ List.replicate (vs.length - 0) (Value.int .u64 0))) := by
    have e0 : (madeCells #[Value.int .u64 0] vs.length).toList = List.replicate vs.length (Value.int .u64 0) := toList_madeCells_one _ _
    rw [e0] at hown0
    exact hown0
  have HB0 : Hid (Below w.heap.size w w0) := (Below.refl _ _).grown hgrow0 (Nat.le_refl _) (fun k h => by cases h)
  clear hown0 hgrow0
  go_wp2
  go_loopw [5, 13] (fun lv iv wr => ∃ k : Nat, k ≤ vs.length ∧ iv = .int .i64 (k : Int) ∧ lv = .int .i64 ((nxG 0 (vs.take k) : Nat) - 1 : Int) ∧ riseG 0 (vs.take k) = true ∧ wr.ownsRow w.heap.size 67 1 (.slice (some ⟨w.heap.size, 0, none⟩) vs.length vs.length) vs.length (uCells (gapsG 0 (vs.take k)) ++ List.replicate (vs.length - k) (Value.int .u64 0)) ∧ Below w.heap.size w wr) (fun _ iv _ => vs.length - (intOf iv).toNat)
  case atStart => exact ⟨0, Nat.zero_le _, rfl, rfl, rfl, HO0.out, HB0.out⟩
  case round =>
    obtain ⟨k, hk, rfl, rfl, hr, hown, hbel⟩ := hrel
    have HR := hidd hr
    have HO := hidd hown
    have HB := hidd hbel
    clear hr hown hbel HO0 HB0
    by_cases hlt : k < vs.length
    · have g1 := (HB.out.cell (p := ⟨b, off + k, none⟩) hbw).trans (Hc.out k hlt)
      have hvk := Hv.out (vs.getD k 0) (by rw [List.getD_eq_getElem?_getD, List.getElem?_eq_getElem hlt]; exact List.getElem_mem _)
      have Hrt := hidd (riseG_take vs k hlt)
      have Hgt := hidd (gapsG_take vs k hlt)
      have Hnt := hidd (nxG_take vs k hlt)
      have Hstop := hidd (riseG_stop vs k hlt)
      have hgl : (gapsG 0 (vs.take k)).length = k := by rw [gapsG_length, List.length_take]; omega
      have hnx : nxG 0 (vs.take k) ≤ 4611686018427387904 := by
        by_cases h0 : k = 0
        · subst h0; simp [nxG]
        · have := nxG_take vs (k - 1) (by omega)
          rw [show k - 1 + 1 = k from by omega] at this
          have := Hv.out (vs.getD (k - 1) 0) (by rw [List.getD_eq_getElem?_getD, List.getElem?_eq_getElem (by omega : k - 1 < vs.length)]; exact List.getElem_mem _)
          omega
      have f1 := HO.out.frozenAt k
      have c1 : ∃ u, wr.cell? ⟨w.heap.size, k, none⟩ = some u := by
        rw [HO.out.cellAt k (by omega)]
        have : k < (uCells (gapsG 0 (vs.take k)) ++ List.replicate (vs.length - k) (Value.int .u64 0)).length := by rw [List.length_append, uCells_length, hgl, List.length_replicate]; omega
        exact ⟨_, List.getElem?_eq_getElem this⟩
      obtain ⟨u, c1⟩ := c1
      generalize vs.getD k 0 = v at *
      generalize nxG 0 (vs.take k) = nx at *
      by_cases hle : nx ≤ v
      · have hlz : ¬ (v : Int) ≤ (nx : Int) - 1 := by omega
        have HG : Hid (riseG 0 (vs.take (k + 1)) = true) := by show _ = _; rw [Hrt.out, HR.out, decide_eq_true hle]; rfl
        have hdz : (v : Int) - ((nx : Int) - 1) - 1 = ((v - nx : Nat) : Int) := by omega
        have st := hidd (HO.out.stored k (.int .u64 ((v - nx : Nat) : Int)))
        have Hset := hidd (u_set_step (gapsG 0 (vs.take k)) k vs.length (v - nx) hgl hlt)
        clear HO
        go_wp2
        go_roundw
        case rel =>
          have h := st.out.1
          rw [Hset.out, ← Hgt.out] at h
          exact ⟨k + 1, by omega, by go_num, by rw [Hnt.out]; go_num, HG.out, h, HB.out.setCell (p := ⟨w.heap.size, k, none⟩) (Nat.le_refl _) _⟩
        case measure => simp [intOf]; omega
      · have hlz : (v : Int) ≤ (nx : Int) - 1 := by omega
        have HN : Hid (riseG 0 vs = false) := Hstop.out (by rw [Hrt.out, decide_eq_false hle]; simp)
        go_wp2
        go_ret2
        exact ⟨HB.out, Or.inl ⟨HN.out, rfl⟩⟩
    · have HK : Hid (vs.take k = vs) := by show _ = _; rw [List.take_of_length_le (by omega)]
      rw [HK.out] at HO HR
      obtain rfl : k = vs.length := by omega
      go_wp2
      go_ret2
      refine ⟨HB.out, Or.inr ⟨HR.out, rfl, ?_⟩⟩
      have := HO.out
      simpa using this

set_option maxHeartbeats 2000000 in
set_option maxRecDepth 100000 in
theorem rising_any (b off cap : Nat) (vs : List Nat) (w : World) (hl : vs.length ≤ 4096) (hv : nums62 vs) (hc : NumsAt .i64 w b off vs) :
    Calls Try.prog 42 #[.slice (some ⟨b, off, none⟩) vs.length cap] w fun e w' => e = .returned (.bool (riseG 0 vs)) ∧ ∃ m, w' = w.drewN m := by
  have Hc := hidd hc
  have Hv := hidd hv
  clear hc hv
  go_enter Try.func42, Try.ntmps42
  go_wp2
  go_loopw [3] (fun iv wr => ∃ k : Nat, 1 ≤ k ∧ k ≤ vs.length + 1 ∧ iv = .int .i64 (k : Int) ∧ riseG 0 (vs.take k) = true ∧ ∃ m, wr = w.drewN m) (fun iv _ => vs.length + 1 - (intOf iv).toNat)
  case atStart =>
    refine ⟨1, by omega, by omega, rfl, ?_, 0, rfl⟩
    cases vs with
    | nil => rfl
    | cons x t => simp [riseG]
  case round =>
    obtain ⟨k, hk1, hk, rfl, hr, m, rfl⟩ := hrel
    have HR := hidd hr
    clear hr
    by_cases hlt : k < vs.length
    · have g1 := Hc.out k hlt
      have g2 := Hc.out (k - 1) (by omega)
      have Hrt := hidd (riseG_take vs k hlt)
      have Hnt := hidd (nxG_take vs (k - 1) (by omega))
      rw [show k - 1 + 1 = k from by omega] at Hnt
      rw [Hnt.out] at Hrt
      have Hstop := hidd (riseG_stop vs k hlt)
      generalize vs.getD k 0 = v at *
      generalize vs.getD (k - 1) 0 = u at *
      obtain ⟨j, hj⟩ : ∃ j, k = j + 1 := ⟨k - 1, by omega⟩
      subst hj
      have e1 : j + 1 - 1 = j := by omega
      rw [e1] at g2
      have hjz : ((j + 1 : Nat) : Int) - 1 = (j : Int) := by omega
      have hjlt : (j : Int) < (vs.length : Int) := by omega
      have hj1lt : ((j + 1 : Nat) : Int) < (vs.length : Int) := by omega
      clear Hnt
      by_cases hle : u + 1 ≤ v
      · have hlz : decide ((v : Int) ≤ (u : Int)) = false := decide_eq_false (by omega)
        have HG : Hid (riseG 0 (vs.take (j + 1 + 1)) = true) := by show _ = _; rw [Hrt.out, HR.out, decide_eq_true hle]; rfl
        have hlz2 : ¬ (v : Int) ≤ (u : Int) := by omega
        go_wp2
        go_quiet (fail)
        go_wp2
        go_roundw
        case rel => exact ⟨j + 1 + 1, by omega, by omega, by go_num, HG.out, _, rfl⟩
        case measure => simp [intOf]; omega
      · have hlz : (v : Int) ≤ (u : Int) := by omega
        have HN : Hid (riseG 0 vs = false) := Hstop.out (by rw [Hrt.out, decide_eq_false hle]; simp)
        go_wp2
        go_quiet (fail)
        go_wp2
        go_ret
        rw [HN.out]
        exact ⟨rfl, m + nq, by simp [World.drewN, Nat.add_assoc]⟩
    · have HK : Hid (riseG 0 vs = true) := by
        show _ = _
        have := HR.out
        rwa [List.take_of_length_le (by omega)] at this
      have hkz : ¬ (k : Int) < (vs.length : Int) := by omega
      go_wp2
      go_ret
      rw [HK.out]
      exact ⟨rfl, m, rfl⟩

theorem Try.infoInt64 : (Try.prog.info? 3).map (fun i => (i.zero, i.size, i.bytes)) = some (some (.int .i64 0), 1, 8) := by kernel_rfl
def iCells (vs : List Nat) : List Value := vs.map fun (v : Nat) => Value.int .i64 (v : Int)
theorem iCells_snoc (l : List Nat) (x : Nat) : iCells (l ++ [x]) = iCells l ++ [.int .i64 (x : Int)] := by simp [iCells]
set_option maxHeartbeats 2000000 in
set_option maxRecDepth 100000 in
theorem specGaps_any (b off cap : Nat) (vs : List Nat) (w : World) (hl : vs.length ≤ 4096) (hv : nums62 vs) (hbw : b < w.heap.size) (hr : riseG 0 vs = true) (hc : NumsAt .i64 w b off vs) :
    Calls Try.prog 43 #[.slice (some ⟨b, off, none⟩) vs.length cap] w fun e w' => ∃ v', e = .returned v' ∧ w'.ownsRow w.heap.size 3 1 v' vs.length (iCells (gapsG 0 vs)) ∧ v' ≠ .slice none 0 0 ∧ Below w.heap.size w w' := by
  obtain ⟨i0, hi, hz0, hz1, hz2⟩ := info_parts Try.infoInt64
  have Hc := hidd hc
  have Hv := hidd hv
  have HR := hidd hr
  clear hc hv hr
  go_enter Try.func43, Try.ntmps43
  go_wp2
  go_loopw [3, 4] (fun u iv wr => ∃ k : Nat, k ≤ vs.length ∧ iv = .int .i64 (k : Int) ∧ wr.ownsRow w.heap.size 3 1 u k (iCells (gapsG 0 (vs.take k))) ∧ u ≠ .slice none 0 0 ∧ Below w.heap.size w wr) (fun _ iv _ => vs.length - (intOf iv).toNat)
  case atStart => exact ⟨0, Nat.zero_le _, rfl, own_empty w 3, by simp, (Below.refl _ _).alloc (Nat.le_refl _) _⟩
  case round =>
    obtain ⟨k, hk, rfl, hown, hnn, hbel⟩ := hrel
    have HO := hidd hown
    have HB := hidd hbel
    have hzw := hbel.size
    clear hown hbel
    by_cases hlt : k < vs.length
    · have g1 := (HB.out.cell (p := ⟨b, off + k, none⟩) hbw).trans (Hc.out k hlt)
      have hvk := Hv.out (vs.getD k 0) (by rw [List.getD_eq_getElem?_getD, List.getElem?_eq_getElem hlt]; exact List.getElem_mem _)
      have Hgt := hidd (gapsG_take vs k hlt)
      have Hle : Hid (nxG 0 (vs.take k) ≤ vs.getD k 0) := by
        show _ ≤ _
        have h1 : riseG 0 (vs.take (k + 1)) = true := by
          cases hq : riseG 0 (vs.take (k + 1)) with
          | true => rfl
          | false => have := riseG_stop vs k hlt hq; rw [HR.out] at this; cases this
        rw [riseG_take vs k hlt] at h1
        simp at h1
        simpa [hlt] using h1.2
      rcases own_cases HO.out with ⟨rfl, _⟩ | ⟨g, cp, rfl, _, _⟩
      · exact absurd rfl hnn
      by_cases hk0 : k = 0
      · subst hk0
        have Hg0 : Hid (gapsG 0 (vs.take 1) = gapsG 0 (vs.take 0) ++ [vs.getD 0 0]) := by show _ = _; rw [Hgt.out]; simp [nxG]
        generalize vs.getD 0 0 = v at *
        rw [Nat.add_zero] at g1
        go_wp2_with (at_builtin; refine wpList_append_own_at _ rfl _ _ 23 rfl w.heap.size 3 i0 (.int .i64 0) 1 8 Try.underlying23 hi hz0 hz1 hz2 rfl (by decide) _ _ _ rfl (HO.out.alloc _) ⟨wr.heap.size, 0, none⟩ 1 1 [.int .i64 (v : Int)] rfl rfl ?c1 ?c2 ?c3 ?c4 ?c5 ?_)
        try case c1 =>
          intro j u hj
          match j, hj with
          | 0, hj => simp at hj; subst hj; simp [Addr.add]
        case c2 => first | rfl | (intro u hu; simp at hu; subst hu; rfl)
        case c3 => unfold maxLen; omega
        case c4 => omega
        case c5 => simp; omega
        intro v6 w6 hown6 hgrow6 hne6 hat6
        have R6 : Hid (w6.ownsRow w.heap.size 3 1 v6 (0 + 1) (iCells (gapsG 0 (vs.take (0 + 1)))) ∧ v6 ≠ .slice none 0 0 ∧ Below w.heap.size w w6) := by
          refine ⟨?_, ?_, (HB.out.alloc hzw _).grown hgrow6 (by simp; omega) (own_block HO.out)⟩
          · rw [Hg0.out, iCells_snoc]; exact hown6
          · intro e; first | exact hne6 e | (have := (hne6.1 e).2; omega)
        clear hown6 hgrow6 hat6 hne6 HO HB
        go_wp2
        go_roundw
        case rel => exact ⟨0 + 1, by omega, by go_num, R6.out.1, R6.out.2.1, R6.out.2.2⟩
        case measure => simp [intOf]; omega
      · obtain ⟨j, hj⟩ : ∃ j, k = j + 1 := ⟨k - 1, by omega⟩
        have g2 := (HB.out.cell (p := ⟨b, off + j, none⟩) hbw).trans (Hc.out j (by omega))
        have Hnt := hidd (nxG_take vs j (by omega))
        rw [← hj] at Hnt
        rw [Hnt.out] at Hle Hgt
        have hvj := Hv.out (vs.getD j 0) (by rw [List.getD_eq_getElem?_getD, List.getElem?_eq_getElem (by omega : j < vs.length)]; exact List.getElem_mem _)
        generalize vs.getD k 0 = v at *
        generalize vs.getD j 0 = u at *
        have hle := Hle.out
        have hjz : (k : Int) - 1 = (j : Int) := by omega
        have hjlt : (j : Int) < (vs.length : Int) := by omega
        have hklt : (k : Int) < (vs.length : Int) := by omega
        have hdz : (v : Int) - (u : Int) - 1 = ((v - (u + 1) : Nat) : Int) := by omega
        have hb0 : ((k : Int) == 0) = false := beq_false_of_ne (by omega)
        obtain ⟨dd, hdd⟩ : ∃ dd, v - (u + 1) = dd := ⟨_, rfl⟩
        have hd62 : dd < 4611686018427387904 := by omega
        rw [hdd] at hdz Hgt
        clear hdd hk0 hj
        have hw1 : IntKind.i64.wrap (j : Int) = (j : Int) := IntWalk.i64_in _ ⟨by omega, by omega⟩
        have hw2 : IntKind.i64.wrap (dd : Int) = (dd : Int) := IntWalk.i64_in _ ⟨by omega, by omega⟩
        have hraw : IntKind.i64.wrap (IntKind.i64.wrap ((v : Int) - (u : Int)) - 1) = (dd : Int) := by
          have e1 : IntKind.i64.wrap ((v : Int) - (u : Int)) = (v : Int) - (u : Int) := IntWalk.i64_in _ ⟨by omega, by omega⟩
          rw [e1, hdz]; exact hw2
        clear hw2
        go_wp2
        go_region_law (refine step_append_lies _ rfl (.tmp 20) (.tmp 32) 23 rfl w.heap.size 3 i0 (.int .i64 0) 1 8 Try.underlying23 hi hz0 hz1 hz2 rfl (by decide) (.slice (some ⟨g, 0, none⟩) k cp) k (iCells (gapsG 0 (vs.take k))) (by simp [Act.eval]) (HO.out.drew.alloc _) ⟨wr.heap.size, 0, none⟩ 1 1 [.int .i64 (dd : Int)] (by simp [Act.eval]) rfl (by intro j' u' hj'; match j', hj' with | 0, hj' => simp at hj'; subst hj'; simp [Addr.add]) (by intro u' hu'; simp at hu'; subst hu'; rfl) (by omega) (by unfold maxLen; omega) (by omega) (by simp; omega) _ rfl ?_; intro g6 cp6 w6 hown6 hgrow6 hat6 hlt6)
        all_goals
          have R6 : Hid (w6.ownsRow w.heap.size 3 1 (.slice (some ⟨g6, 0, none⟩) (k + 1) cp6) (k + 1) (iCells (gapsG 0 (vs.take (k + 1)))) ∧ Below w.heap.size w w6) := by
            refine ⟨?_, ((below_drewN HB.out 1).alloc hzw _).grown hgrow6 (by simp; omega) (own_block HO.out)⟩
            rw [Hgt.out, iCells_snoc]; exact hown6
          clear hown6 hgrow6 hat6 hlt6
          go_wp2
          go_roundw
          · exact ⟨k + 1, by omega, by go_num, R6.out.1, by simp, R6.out.2⟩
          · simp [intOf]; omega
    · have HK : Hid (vs.take k = vs) := by show _ = _; rw [List.take_of_length_le (by omega)]
      rw [HK.out] at HO
      obtain rfl : k = vs.length := by omega
      go_wp2
      go_ret
      exact ⟨_, rfl, HO.out, hnn, HB.out⟩
end Go.Proofs.Ytibomnmgiimejad
