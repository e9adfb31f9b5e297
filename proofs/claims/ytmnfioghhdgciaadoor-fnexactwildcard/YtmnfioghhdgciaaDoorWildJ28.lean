import Derived.Test.YtmnfioghhdgciaaDoorWildJ27
import Derived.WalkMore
import Derived.Deep.Cut
namespace Go.Proofs.YtmnfioghhdgciaaDoor
open Go Go.RowKit
set_option linter.unusedVariables false
set_option linter.unusedSimpArgs false
set_option maxRecDepth 100000

/-! To which class each symbol leads: (*impl.table).leads. -/
/-- The list while the symbols below e have been written. -/
def ldL (nx : List Nat) (cl : List Int) (n e : Nat) : List Int := (List.range n).map fun p => if p < e then cl.getD (nx.getD p 0) 0 else 0
/-- Where the stretch i begins, or the end. -/
def begA (rs : List (Nat × Nat)) (n i : Nat) : Nat := (rs[i]?.map (·.1)).getD n
theorem ldL_zero (nx : List Nat) (cl : List Int) (n : Nat) : ldL nx cl n 0 = List.replicate n 0 := by
  apply List.ext_getElem
  · simp [ldL]
  · intro i h1 h2
    simp [ldL]
theorem ldL_set {nx : List Nat} {cl : List Int} {n e : Nat} : (ldL nx cl n e).set e (cl.getD (nx.getD e 0) 0) = ldL nx cl n (e + 1) := by
  apply List.ext_getElem
  · simp [ldL]
  · intro j h1 h2
    rw [List.getElem_set]
    simp only [ldL, List.getElem_map, List.getElem_range]
    by_cases e1 : e = j
    · subst e1
      rw [if_pos rfl, if_pos (by omega)]
    · rw [if_neg e1]
      by_cases e2 : j < e
      · rw [if_pos e2, if_pos (by omega)]
      · rw [if_neg e2, if_neg (by omega)]
theorem ldL_all {nx : List Nat} {cl : List Int} : ldL nx cl nx.length nx.length = nx.map (fun x => cl.getD x 0) := by
  apply List.ext_getElem
  · simp [ldL]
  · intro i h1 h2
    have hi : i < nx.length := by simpa [ldL] using h1
    simp only [ldL, List.getElem_map, List.getElem_range, if_pos hi]
    rw [List.getD_eq_getElem?_getD (l := nx), List.getElem?_eq_getElem hi]
    rfl
theorem ldL_at {nx : List Nat} {cl : List Int} {n e p : Nat} (hp : p < n) : ∃ z, (zI (ldL nx cl n e))[p]? = some (.int .i64 z) := by
  unfold zI ldL
  rw [List.getElem?_map, List.getElem?_map, List.getElem?_range hp]
  exact ⟨_, rfl⟩
set_option maxHeartbeats 4000000 in
theorem leads_any (base tb q g3 c3 S sc : Nat) (ads : Option Addr) (a0 a1 a3 u vrows vfin vpts : Value) (l : List SRow) (bs : List Bool) (cl : List Int) (nx : List Nat) (w : World)
    (hT : TabS w base tb a0 a1 (.slice ads S sc) a3 vrows vfin (.slice (some ⟨g3, 0, none⟩) cl.length c3) vpts l bs cl) (hlq : l[q]? = some (u, runs nx)) (hnx : nx.length = S) (hS0 : 0 < S) (hS : S ≤ 1000) (hto : ∀ x ∈ nx, x < cl.length) (hn : l.length ≤ 1114112) :
    Calls Tryd.prog 60 #[.pointer (some ⟨tb, 0, none⟩), .int .i64 (q : Int)] w fun e w' => ∃ v, e = .returned v ∧ w'.ownsRow w.heap.size 3 1 v S (zI (nx.map (fun x => cl.getD x 0))) ∧ Below w.heap.size w w' := by
  obtain ⟨rs, hrs⟩ : ∃ rs, rs = runs nx := ⟨_, rfl⟩
  rw [← hrs] at hlq
  have hql : q < l.length := (List.getElem?_eq_some_iff.1 hlq).1
  have hqz : (q : Int) < (l.length : Int) := by omega
  have hnn : nx ≠ [] := fun e => by rw [e, List.length_nil] at hnx; omega
  have hrn : rs ≠ [] := by rw [hrs]; exact runs_ne_nil hnn
  have hrp : 0 < rs.length := List.length_pos_iff.2 hrn
  have hrow := hT.rows.each _ (List.mem_of_getElem? hlq)
  simp only at hrow
  obtain ⟨gu, cu, hvu⟩ := own_posk hrow hrp
  subst hvu
  obtain ⟨gr, cr, hvr⟩ := own_posk hT.rows.row (by omega)
  subst hvr
  have x1 := own_cellk hT.rows.row (p := q) (u := .slice (some ⟨gu, 0, none⟩) rs.length cu) (by rw [List.getElem?_map, hlq]; rfl)
  have b4 := blkc hT.box 4
  have b2 := blkc hT.box 2
  have HRow := hidd hrow
  have HT := hidd hT
  have hrl : rs.length ≤ 1000 := by
    have := runsFrom_len nx none 0
    rw [hrs]
    unfold runs
    omega
  have HR0 : Hid (begA rs S 0 = 0) := by
    obtain ⟨v, t, e⟩ := runs_head hnn
    show _ = _
    unfold begA
    rw [hrs, e]; rfl
  have hmk := run_makeI S (by omega)
  have HM : Hid ((w.alloc (.cells (zI (List.replicate S 0)).toArray 3)).ownsRow w.heap.size 3 1 (.slice (some ⟨w.heap.size, 0, none⟩) S S) S (zI (ldL nx cl S (begA rs S 0)))) := by
    show World.ownsRow _ _ _ _ _ _ _
    rw [HR0.out, ldL_zero]
    exact makeI_own w S w.heap.size (by omega) (Nat.le_refl _)
  have HBl : Hid (Below w.heap.size w (w.alloc (.cells (zI (List.replicate S 0)).toArray 3))) := (Below.refl _ _).alloc (Nat.le_refl _) _
  have HRS := hidd hrs
  have HTo := hidd hto
  clear hT hrow hrs hrn hto hnn hlq
  go_enter Tryd.func60, Tryd.ntmps60
  go_wp2_with fail
  clear hmk b4 b2 x1
  generalize w.alloc (.cells (zI (List.replicate S 0)).toArray 3) = W1 at *
  go_loopw [27] (fun iv wx => ∃ i : Nat, iv = .int .i64 (i : Int) ∧ i ≤ rs.length ∧ wx.ownsRow w.heap.size 3 1 (.slice (some ⟨w.heap.size, 0, none⟩) S S) S (zI (ldL nx cl S (begA rs S i))) ∧ Below w.heap.size w wx) (fun iv _ => rs.length - (intOf iv).toNat)
  case atStart => exact ⟨0, rfl, Nat.zero_le _, HM.out, HBl.out⟩
  case round =>
    clear HM HBl
    obtain ⟨i, rfl, hi, ho, hb⟩ := hrel
    have HO := hidd ho
    have HB := hidd hb
    clear ho hb
    by_cases hil : i < rs.length
    · have hilz : (i : Int) < (rs.length : Int) := by omega
      obtain ⟨sx, hsx⟩ : ∃ s, rs[i]? = some s := ⟨_, List.getElem?_eq_getElem hil⟩
      have y0 := own_cellk HRow.out (str_at rs i sx hsx).1
      have y1 := own_cellk HRow.out (str_at rs i sx hsx).2
      have z0 := (HB.out.cell (cell_lt y0)).trans y0
      have z1 := (HB.out.cell (cell_lt y1)).trans y1
      have HSX := hidd hsx
      clear y0 y1 hsx
      go_upto_if 38 with fail
      have hbA : Below wr.heap.size wr (wr.alloc (.cells #[.int .i64 (sx.1 : Int), .int .i64 (sx.2 : Int)] 106)) := (Below.refl _ _).alloc (Nat.le_refl _) _
      have HO2 : Hid ((wr.alloc (.cells #[.int .i64 (sx.1 : Int), .int .i64 (sx.2 : Int)] 106)).ownsRow w.heap.size 3 1 (.slice (some ⟨w.heap.size, 0, none⟩) S S) S (zI (ldL nx cl S (begA rs S i)))) := own_congr HO.out (fun b hk => hbA.block b (Array.getElem?_eq_some_iff.1 (own_blk HO.out hk).2.choose_spec).1)
      have HB2 : Hid (Below w.heap.size w (wr.alloc (.cells #[.int .i64 (sx.1 : Int), .int .i64 (sx.2 : Int)] 106))) := HB.out.trans (hbA.mono HB.out.size)
      have H8 : Hid ((wr.alloc (.cells #[.int .i64 (sx.1 : Int), .int .i64 (sx.2 : Int)] 106)).heap[wr.heap.size]? = some (.cells #[.int .i64 (sx.1 : Int), .int .i64 (sx.2 : Int)] 106)) := heap_alloc_new _ _
      clear hbA HO HB z0 z1
      generalize wr.alloc (.cells #[.int .i64 (sx.1 : Int), .int .i64 (sx.2 : Int)] 106) = W2 at *
      generalize wr.heap.size = b8 at *
      have HBi : Hid (begA rs S i = sx.1) := by
        show _ = _
        unfold begA
        rw [HSX.out]; rfl
      have hsv : sx.2 ∈ nx ∧ sx.1 < nx.length := runs_val (by rw [← HRS.out]; exact List.mem_of_getElem? HSX.out)
      have hs1 : sx.1 < S := by rw [← hnx]; exact hsv.2
      have hs2 : sx.2 < cl.length := HTo.out _ hsv.1
      clear hsv
      obtain ⟨E, hE, hE1, hE2, hEr⟩ : ∃ E, E = begA rs S (i + 1) ∧ sx.1 ≤ E ∧ E ≤ S ∧ ∀ p, sx.1 ≤ p → p < E → nx.getD p 0 = sx.2 := by
        refine ⟨_, rfl, ?_, ?_, ?_⟩
        · unfold begA
          cases e : rs[i + 1]? with
          | none => show sx.1 ≤ S; omega
          | some u =>
            have := runs_next (l := nx) (by rw [← HRS.out]; exact HSX.out) (by rw [← HRS.out]; exact e)
            show sx.1 ≤ u.1; omega
        · unfold begA
          cases e : rs[i + 1]? with
          | none => show S ≤ S; omega
          | some u =>
            have := (runs_val (l := nx) (s := u) (by rw [← HRS.out]; exact List.mem_of_getElem? e)).2
            show u.1 ≤ S; omega
        · intro p h1 h2
          have hpS : p < nx.length := by
            unfold begA at h2
            cases e : rs[i + 1]? with
            | none => rw [e] at h2; rw [hnx]; exact h2
            | some u =>
              rw [e] at h2
              have := (runs_val (l := nx) (s := u) (by rw [← HRS.out]; exact List.mem_of_getElem? e)).2
              have h3 : p < u.1 := h2
              omega
          have := runs_at (l := nx) (i := i) (s := sx) (by rw [← HRS.out]; exact HSX.out) h1 (fun u hu => by
            rw [← HRS.out] at hu
            unfold begA at h2
            rw [hu] at h2
            exact h2) hpS
          rw [List.getD_eq_getElem?_getD, this]; rfl
      have HE := hidd hE
      have HEr := hidd hEr
      clear hE hEr
      go_cut [9] (fun ev wx => ev = .int .i64 (E : Int) ∧ wx = W2)
      case first =>
        by_cases hnext : i + 1 < rs.length
        · have hnz : (i : Int) + 1 < (rs.length : Int) := by omega
          obtain ⟨sy, hsy⟩ : ∃ s, rs[i + 1]? = some s := ⟨_, List.getElem?_eq_getElem hnext⟩
          have y0 := own_cellk HRow.out (str_at rs (i + 1) sy hsy).1
          have z0 := (HB2.out.cell (cell_lt y0)).trans y0
          have HEs : Hid (E = sy.1) := by
            show _ = _
            rw [HE.out]
            unfold begA
            rw [hsy]; rfl
          clear y0 hsy
          go_wp2_with fail
          go_meet
          case rel => exact ⟨by rw [HEs.out], rfl⟩
        · have hnz : ¬ (i : Int) + 1 < (rs.length : Int) := by omega
          have HEs : Hid (E = S) := by
            show _ = _
            rw [HE.out]
            unfold begA
            rw [List.getElem?_eq_none (by omega)]; rfl
          go_wp2_with fail
          go_meet
          case rel => exact ⟨by rw [HEs.out], rfl⟩
      case rest =>
        obtain ⟨rfl, hw2⟩ := hcut
        obtain rfl := hw2.symm
        have z8 := blkc H8.out 0
        rw [HBi.out] at HO2
        go_wp2_with fail
        clear z8
        go_loopw [10] (fun pv wx => ∃ p : Nat, pv = .int .i64 (p : Int) ∧ sx.1 ≤ p ∧ p ≤ E ∧ wx.ownsRow w.heap.size 3 1 (.slice (some ⟨w.heap.size, 0, none⟩) S S) S (zI (ldL nx cl S p)) ∧ Below w.heap.size w wx ∧ wx.heap[b8]? = some (.cells #[.int .i64 (sx.1 : Int), .int .i64 (sx.2 : Int)] 106)) (fun pv _ => S - (intOf pv).toNat)
        case atStart => exact ⟨sx.1, rfl, Nat.le_refl _, hE1, HO2.out, HB2.out, H8.out⟩
        case round =>
          clear HO2 HB2 H8
          obtain ⟨p, rfl, hp1, hp2, ho, hb, h8⟩ := hrel
          have HO := hidd ho
          have HB := hidd hb
          have H8 := hidd h8
          clear ho hb h8
          by_cases hpE : p < E
          · have hpz : (p : Int) < (E : Int) := by omega
            have hpS : p < S := by omega
            go_upto_region 12 with fail
            refine wp_region_held (S := fun u => u.cell? ⟨tb, 6, none⟩ = some (.slice (some ⟨g3, 0, none⟩) cl.length c3) ∧ u.cell? ⟨b8, 1, none⟩ = some (.int .i64 (sx.2 : Int)) ∧ u.cell? ⟨g3, sx.2, none⟩ = some (.int .i64 (cl.getD sx.2 0))) (by kernel_rfl) ?_
            have hbd : Below wr.heap.size wr ({ heap := wr.heap, tape := wr.tape, drawn := wr.drawn + 1, os := wr.os, output := wr.output } : World) := (Below.refl _ _).drew
            generalize ({ heap := wr.heap, tape := wr.tape, drawn := wr.drawn + 1, os := wr.os, output := wr.output } : World) = Wd at *
            have hod : Wd.ownsRow w.heap.size 3 1 (.slice (some ⟨w.heap.size, 0, none⟩) S S) S (zI (ldL nx cl S p)) := own_congr HO.out (fun b hk => hbd.block b (Array.getElem?_eq_some_iff.1 (own_blk HO.out hk).2.choose_spec).1)
            have hwz := HB.out.size
            have hbw : Below w.heap.size w Wd := HB.out.trans (hbd.mono hwz)
            have h8d := blko H8.out hbd
            have y3 := own_cellk HT.out.cls (p := sx.2) (u := .int .i64 (cl.getD sx.2 0)) (by unfold zI; rw [List.getElem?_map, List.getElem?_eq_getElem hs2, List.getD_eq_getElem?_getD, List.getElem?_eq_getElem hs2]; rfl)
            have hSd : (fun u => u.cell? ⟨tb, 6, none⟩ = some (.slice (some ⟨g3, 0, none⟩) cl.length c3) ∧ u.cell? ⟨b8, 1, none⟩ = some (.int .i64 (sx.2 : Int)) ∧ u.cell? ⟨g3, sx.2, none⟩ = some (.int .i64 (cl.getD sx.2 0))) Wd := ⟨blkc ((hbw.block tb (Array.getElem?_eq_some_iff.1 HT.out.box).1).trans HT.out.box) 6, blkc h8d 1, (hbw.cell (cell_lt y3)).trans y3⟩
            try simp only [Act.put, List.getElem_toArray, List.getElem_cons_succ, List.getElem_cons_zero, List.setIfInBounds_toArray, List.set_cons_zero, List.set_cons_succ]
            refine tkX 0 (hS := hSd) (h := ?_)
            try simp only [Act.put, List.getElem_toArray, List.getElem_cons_succ, List.getElem_cons_zero, List.setIfInBounds_toArray, List.set_cons_zero, List.set_cons_succ]
            refine tkX 1 (hS := hSd) (h := ?_)
            try simp only [Act.put, List.getElem_toArray, List.getElem_cons_succ, List.getElem_cons_zero, List.setIfInBounds_toArray, List.set_cons_zero, List.set_cons_succ]
            refine tkX 2 (hS := hSd) (h := ?_)
            try simp only [Act.put, List.getElem_toArray, List.getElem_cons_succ, List.getElem_cons_zero, List.setIfInBounds_toArray, List.set_cons_zero, List.set_cons_succ]
            refine tkX 3 (hS := hSd) (h := ?_)
            try simp only [Act.put, List.getElem_toArray, List.getElem_cons_succ, List.getElem_cons_zero, List.setIfInBounds_toArray, List.set_cons_zero, List.set_cons_succ]
            refine tkX 4 (hS := hSd) (h := ?_)
            try simp only [Act.put, List.getElem_toArray, List.getElem_cons_succ, List.getElem_cons_zero, List.setIfInBounds_toArray, List.set_cons_zero, List.set_cons_succ]
            refine tkX 5 (v := .slice (some ⟨g3, 0, none⟩) cl.length c3) (hS := hSd) (h := ?_)
            try simp only [Act.put, List.getElem_toArray, List.getElem_cons_succ, List.getElem_cons_zero, List.setIfInBounds_toArray, List.set_cons_zero, List.set_cons_succ]
            refine tkX 6 (hS := hSd) (h := ?_)
            try simp only [Act.put, List.getElem_toArray, List.getElem_cons_succ, List.getElem_cons_zero, List.setIfInBounds_toArray, List.set_cons_zero, List.set_cons_succ]
            refine tkX 7 (v := .int .i64 (sx.2 : Int)) (hS := hSd) (h := ?_)
            try simp only [Act.put, List.getElem_toArray, List.getElem_cons_succ, List.getElem_cons_zero, List.setIfInBounds_toArray, List.set_cons_zero, List.set_cons_succ]
            refine wpAnyH_take (i := 8) (v := .pointer (some ⟨g3, sx.2, none⟩)) rfl (by kernel_rfl) (by kernel_rfl) (by kernel_rfl) (fun _ _ _ h => h) (Or.inl ⟨by kernel_rfl, fun W hW => exec_idxI W _ _ _ _ rfl g3 sx.2 cl.length c3 (by kernel_rfl) (by kernel_rfl) hs2⟩) hSd ?_
            try simp only [Act.put, List.getElem_toArray, List.getElem_cons_succ, List.getElem_cons_zero, List.setIfInBounds_toArray, List.set_cons_zero, List.set_cons_succ]
            refine tkX 9 (v := .int .i64 (cl.getD sx.2 0)) (hS := hSd) (h := ?_)
            try simp only [Act.put, List.getElem_toArray, List.getElem_cons_succ, List.getElem_cons_zero, List.setIfInBounds_toArray, List.set_cons_zero, List.set_cons_succ]
            refine wpAnyH_take (i := 10) (v := .pointer (some ⟨w.heap.size, p, none⟩)) rfl (by kernel_rfl) (by kernel_rfl) (by kernel_rfl) (fun _ _ _ h => h) (Or.inl ⟨by kernel_rfl, fun W hW => exec_idxI W _ _ _ _ rfl w.heap.size p S S (by kernel_rfl) (by kernel_rfl) hpS⟩) hSd ?_
            obtain ⟨zo, hzo⟩ := ldL_at (nx := nx) (cl := cl) (e := p) hpS
            try simp only [Act.put, List.getElem_toArray, List.getElem_cons_succ, List.getElem_cons_zero, List.setIfInBounds_toArray, List.set_cons_zero, List.set_cons_succ]
            refine wpAnyH_one 11 (by kernel_rfl) ?_
            refine wpOp_skip _ rfl (by kernel_rfl) (exec_storeZ _ _ _ _ _ rfl w.heap.size p (cl.getD sx.2 0) _ (by kernel_rfl) (by kernel_rfl) (own_cellk hod hzo) (own_frozenk hod p)) ?_
            have hbS : Below w.heap.size w (Wd.setCell ⟨w.heap.size, p, none⟩ (.int .i64 (cl.getD sx.2 0))) := hbw.trans (((But.refl (fun b => b = w.heap.size) Wd).set w.heap.size p _ rfl).below (Nat.le_trans hwz hbd.size) (fun j hj e => by omega))
            have h8S : (Wd.setCell ⟨w.heap.size, p, none⟩ (.int .i64 (cl.getD sx.2 0))).heap[b8]? = some (.cells #[.int .i64 (sx.1 : Int), .int .i64 (sx.2 : Int)] 106) := by
              rw [heap_set_other _ _ _ _ _ (blk_ne h8d (own_blk hod (b := w.heap.size) rfl).2.choose_spec (by decide))]
              exact h8d
            refine ⟨⟨blkc ((hbS.block tb (Array.getElem?_eq_some_iff.1 HT.out.box).1).trans HT.out.box) 6, blkc h8S 1, (hbS.cell (cell_lt y3)).trans y3⟩, ?_⟩
            try simp only [Act.put, List.getElem_toArray, List.getElem_cons_succ, List.getElem_cons_zero, List.setIfInBounds_toArray, List.set_cons_zero, List.set_cons_succ]
            refine wpAnyH_done (by kernel_rfl) ?_ _
            have HOn : Hid ((Wd.setCell ⟨w.heap.size, p, none⟩ (.int .i64 (cl.getD sx.2 0))).ownsRow w.heap.size 3 1 (.slice (some ⟨w.heap.size, 0, none⟩) S S) S (zI (ldL nx cl S (p + 1)))) := by
              have h := own_setI hod hpS (cl.getD sx.2 0)
              have e := HEr.out p hp1 hpE
              show World.ownsRow _ _ _ _ _ _ _
              rw [← ldL_set, e]
              exact h
            have HBn := hidd hbS
            have H8n := hidd h8S
            clear hbS h8S hSd y3 hod h8d hbw hbd hzo HO HB H8
            generalize Wd.setCell ⟨w.heap.size, p, none⟩ (.int .i64 (cl.getD sx.2 0)) = W3 at *
            go_wp2_with fail
            go_roundw
            case rel => exact ⟨p + 1, by go_num, by omega, by omega, HOn.out, HBn.out, H8n.out⟩
            case measure => simp [intOf]; omega
          · have hpz : ¬ (p : Int) < (E : Int) := by omega
            have HOe : Hid (wr.ownsRow w.heap.size 3 1 (.slice (some ⟨w.heap.size, 0, none⟩) S S) S (zI (ldL nx cl S (begA rs S (i + 1))))) := by
              have e : p = E := by omega
              show World.ownsRow _ _ _ _ _ _ _
              rw [← HE.out, ← e]
              exact HO.out
            go_wp2_with fail
            go_roundw
            case rel => exact ⟨i + 1, by go_num, by omega, HOe.out, HB.out⟩
            case measure => simp [intOf]; omega
    · have hilz : ¬ (i : Int) < (rs.length : Int) := by omega
      have HE : Hid (begA rs S i = S) := by
        show _ = _
        unfold begA
        rw [List.getElem?_eq_none (by omega)]; rfl
      have HFin : Hid (wr.ownsRow w.heap.size 3 1 (.slice (some ⟨w.heap.size, 0, none⟩) S S) S (zI (nx.map (fun x => cl.getD x 0)))) := by
        have h := HO.out
        rw [HE.out] at h
        show World.ownsRow _ _ _ _ _ _ _
        rw [← ldL_all, hnx]
        exact h
      go_wp2_with fail
      first | go_ret | (trace_state; skip)
      exact ⟨_, rfl, HFin.out, HB.out⟩
end Go.Proofs.YtmnfioghhdgciaaDoor

namespace Go.Proofs.YtmnfioghhdgciaaDoor
open Go Go.RowKit
set_option linter.unusedVariables false
set_option linter.unusedSimpArgs false
set_option maxRecDepth 100000

/-! Whether a part leads to itself alone: (*impl.table).deadEnd. -/
theorem exec_neqInt (W : World) (ρ : Operand → Value) (o : Oper) (x y : Operand) (t ty : TypeId) (ho : o.op = .binOp .neq t x y ty) (a b : Int) (hx : ρ x = .int .i64 a) (hy : ρ y = .int .i64 b) :
    (execOp ρ o).run Tryd.prog W = .ok (.value (.bool (a != b))) W := by
  unfold execOp
  simp [ho, hx, hy, eqGuard, binOp, Op.intCmp]
set_option maxHeartbeats 4000000 in
theorem deadEnd1_any (base tb bx ax g3 c3 a : Nat) (a0 a1 a2 a3 vrows vfin vpts : Value) (l : List SRow) (bs : List Bool) (cl : List Int) (s : Nat × Nat) (w : World)
    (hT : TabS w base tb a0 a1 a2 a3 vrows vfin (.slice (some ⟨g3, 0, none⟩) cl.length c3) vpts l bs cl) (hbx : w.cell? ⟨bx, 0, none⟩ = some (.pointer (some ⟨tb, 0, none⟩))) (hax : w.cell? ⟨ax, 0, none⟩ = some (.int .i64 (a : Int))) (hs : s.2 < cl.length) (ha : a < cl.length) :
    Calls Tryd.prog 71 #[.agg #[.int .i64 (s.1 : Int), .int .i64 (s.2 : Int)], .pointer (some ⟨bx, 0, none⟩), .pointer (some ⟨ax, 0, none⟩)] w fun e w' => e = .returned (.bool (decide (cl.getD s.2 0 ≠ cl.getD a 0))) ∧ Below w.heap.size w w' := by
  have hat : ∀ k, k < cl.length → w.cell? ⟨g3, k, none⟩ = some (.int .i64 (cl.getD k 0)) := fun k hk => own_cellk hT.cls (by unfold zI; rw [List.getElem?_map, List.getElem?_eq_getElem hk, List.getD_eq_getElem?_getD, List.getElem?_eq_getElem hk]; rfl)
  have b6 : w.cell? ⟨tb, 6, none⟩ = some (.slice (some ⟨g3, 0, none⟩) cl.length c3) := blkc hT.box 6
  have HA := hidd (hat s.2 hs)
  have HB := hidd (hat a ha)
  have H6 := hidd b6
  have HX := hidd hbx
  have HY := hidd hax
  have hbA : Below w.heap.size w (w.alloc (.cells #[.int .i64 (s.1 : Int), .int .i64 (s.2 : Int)] 106)) := (Below.refl _ _).alloc (Nat.le_refl _) _
  have HBA := hidd hbA
  have HN : Hid ((w.alloc (.cells #[.int .i64 (s.1 : Int), .int .i64 (s.2 : Int)] 106)).heap[w.heap.size]? = some (.cells #[.int .i64 (s.1 : Int), .int .i64 (s.2 : Int)] 106)) := heap_alloc_new _ _
  clear hT hat b6 hbx hax hbA
  generalize cl.getD s.2 0 = x at *
  generalize cl.getD a 0 = y at *
  go_enter Tryd.func71, Tryd.ntmps71
  go_upto_region 1 with fail
  generalize w.alloc (.cells #[.int .i64 (s.1 : Int), .int .i64 (s.2 : Int)] 106) = W1 at *
  refine wp_region_held (S := fun u => u.cell? ⟨bx, 0, none⟩ = some (.pointer (some ⟨tb, 0, none⟩)) ∧ u.cell? ⟨ax, 0, none⟩ = some (.int .i64 (a : Int)) ∧ u.cell? ⟨tb, 6, none⟩ = some (.slice (some ⟨g3, 0, none⟩) cl.length c3) ∧ u.cell? ⟨w.heap.size, 1, none⟩ = some (.int .i64 (s.2 : Int)) ∧ u.cell? ⟨g3, s.2, none⟩ = some (.int .i64 x) ∧ u.cell? ⟨g3, a, none⟩ = some (.int .i64 y)) (by kernel_rfl) ?_
  have hbd : Below W1.heap.size W1 ({ heap := W1.heap, tape := W1.tape, drawn := W1.drawn + 1, os := W1.os, output := W1.output } : World) := (Below.refl _ _).drew
  generalize ({ heap := W1.heap, tape := W1.tape, drawn := W1.drawn + 1, os := W1.os, output := W1.output } : World) = Wd at *
  have hwz := HBA.out.size
  have hbw : Below w.heap.size w Wd := HBA.out.trans (hbd.mono hwz)
  have hSd : (fun u => u.cell? ⟨bx, 0, none⟩ = some (.pointer (some ⟨tb, 0, none⟩)) ∧ u.cell? ⟨ax, 0, none⟩ = some (.int .i64 (a : Int)) ∧ u.cell? ⟨tb, 6, none⟩ = some (.slice (some ⟨g3, 0, none⟩) cl.length c3) ∧ u.cell? ⟨w.heap.size, 1, none⟩ = some (.int .i64 (s.2 : Int)) ∧ u.cell? ⟨g3, s.2, none⟩ = some (.int .i64 x) ∧ u.cell? ⟨g3, a, none⟩ = some (.int .i64 y)) Wd := ⟨(hbw.cell (cell_lt HX.out)).trans HX.out, (hbw.cell (cell_lt HY.out)).trans HY.out, (hbw.cell (cell_lt H6.out)).trans H6.out, blkc (blko HN.out hbd) 1, (hbw.cell (cell_lt HA.out)).trans HA.out, (hbw.cell (cell_lt HB.out)).trans HB.out⟩
  try simp only [Act.put, List.getElem_toArray, List.getElem_cons_succ, List.getElem_cons_zero, List.setIfInBounds_toArray, List.set_cons_zero, List.set_cons_succ]
  refine tkX 0 (v := .pointer (some ⟨tb, 0, none⟩)) (hS := hSd) (h := ?_)
  try simp only [Act.put, List.getElem_toArray, List.getElem_cons_succ, List.getElem_cons_zero, List.setIfInBounds_toArray, List.set_cons_zero, List.set_cons_succ]
  refine tkX 1 (hS := hSd) (h := ?_)
  try simp only [Act.put, List.getElem_toArray, List.getElem_cons_succ, List.getElem_cons_zero, List.setIfInBounds_toArray, List.set_cons_zero, List.set_cons_succ]
  refine tkX 2 (hS := hSd) (h := ?_)
  try simp only [Act.put, List.getElem_toArray, List.getElem_cons_succ, List.getElem_cons_zero, List.setIfInBounds_toArray, List.set_cons_zero, List.set_cons_succ]
  refine tkX 3 (v := .slice (some ⟨g3, 0, none⟩) cl.length c3) (hS := hSd) (h := ?_)
  try simp only [Act.put, List.getElem_toArray, List.getElem_cons_succ, List.getElem_cons_zero, List.setIfInBounds_toArray, List.set_cons_zero, List.set_cons_succ]
  refine tkX 4 (hS := hSd) (h := ?_)
  try simp only [Act.put, List.getElem_toArray, List.getElem_cons_succ, List.getElem_cons_zero, List.setIfInBounds_toArray, List.set_cons_zero, List.set_cons_succ]
  refine tkX 5 (v := .int .i64 (s.2 : Int)) (hS := hSd) (h := ?_)
  try simp only [Act.put, List.getElem_toArray, List.getElem_cons_succ, List.getElem_cons_zero, List.setIfInBounds_toArray, List.set_cons_zero, List.set_cons_succ]
  refine wpAnyH_take (i := 6) (v := .pointer (some ⟨g3, s.2, none⟩)) rfl (by kernel_rfl) (by kernel_rfl) (by kernel_rfl) (fun _ _ _ h => h) (Or.inl ⟨by kernel_rfl, fun W hW => exec_idxI W _ _ _ _ rfl g3 s.2 cl.length c3 (by kernel_rfl) (by kernel_rfl) hs⟩) hSd ?_
  try simp only [Act.put, List.getElem_toArray, List.getElem_cons_succ, List.getElem_cons_zero, List.setIfInBounds_toArray, List.set_cons_zero, List.set_cons_succ]
  refine tkX 7 (v := .int .i64 x) (hS := hSd) (h := ?_)
  try simp only [Act.put, List.getElem_toArray, List.getElem_cons_succ, List.getElem_cons_zero, List.setIfInBounds_toArray, List.set_cons_zero, List.set_cons_succ]
  refine tkX 8 (v := .pointer (some ⟨tb, 0, none⟩)) (hS := hSd) (h := ?_)
  try simp only [Act.put, List.getElem_toArray, List.getElem_cons_succ, List.getElem_cons_zero, List.setIfInBounds_toArray, List.set_cons_zero, List.set_cons_succ]
  refine tkX 9 (hS := hSd) (h := ?_)
  try simp only [Act.put, List.getElem_toArray, List.getElem_cons_succ, List.getElem_cons_zero, List.setIfInBounds_toArray, List.set_cons_zero, List.set_cons_succ]
  refine tkX 10 (hS := hSd) (h := ?_)
  try simp only [Act.put, List.getElem_toArray, List.getElem_cons_succ, List.getElem_cons_zero, List.setIfInBounds_toArray, List.set_cons_zero, List.set_cons_succ]
  refine tkX 11 (v := .slice (some ⟨g3, 0, none⟩) cl.length c3) (hS := hSd) (h := ?_)
  try simp only [Act.put, List.getElem_toArray, List.getElem_cons_succ, List.getElem_cons_zero, List.setIfInBounds_toArray, List.set_cons_zero, List.set_cons_succ]
  refine tkX 12 (v := .int .i64 (a : Int)) (hS := hSd) (h := ?_)
  try simp only [Act.put, List.getElem_toArray, List.getElem_cons_succ, List.getElem_cons_zero, List.setIfInBounds_toArray, List.set_cons_zero, List.set_cons_succ]
  refine wpAnyH_take (i := 13) (v := .pointer (some ⟨g3, a, none⟩)) rfl (by kernel_rfl) (by kernel_rfl) (by kernel_rfl) (fun _ _ _ h => h) (Or.inl ⟨by kernel_rfl, fun W hW => exec_idxI W _ _ _ _ rfl g3 a cl.length c3 (by kernel_rfl) (by kernel_rfl) ha⟩) hSd ?_
  try simp only [Act.put, List.getElem_toArray, List.getElem_cons_succ, List.getElem_cons_zero, List.setIfInBounds_toArray, List.set_cons_zero, List.set_cons_succ]
  refine tkX 14 (v := .int .i64 y) (hS := hSd) (h := ?_)
  try simp only [Act.put, List.getElem_toArray, List.getElem_cons_succ, List.getElem_cons_zero, List.setIfInBounds_toArray, List.set_cons_zero, List.set_cons_succ]
  refine wpAnyH_take (i := 15) rfl (by kernel_rfl) (by kernel_rfl) (by kernel_rfl) (fun _ _ _ h => h) (Or.inl ⟨by kernel_rfl, fun W hW => exec_neqInt W _ _ _ _ _ _ rfl x y (by kernel_rfl) (by kernel_rfl)⟩) hSd ?_
  try simp only [Act.put, List.getElem_toArray, List.getElem_cons_succ, List.getElem_cons_zero, List.setIfInBounds_toArray, List.set_cons_zero, List.set_cons_succ]
  refine tkX 16 (hS := hSd) (h := ?_)
  try simp only [Act.put, List.getElem_toArray, List.getElem_cons_succ, List.getElem_cons_zero, List.setIfInBounds_toArray, List.set_cons_zero, List.set_cons_succ]
  refine wpAnyH_done (by kernel_rfl) ?_ _
  clear hSd
  go_wp2_with fail
  go_ret
  refine ⟨?_, hbw⟩
  by_cases e : x = y
  · simp [e]
  · simp [e]
end Go.Proofs.YtmnfioghhdgciaaDoor

namespace Go.Proofs.YtmnfioghhdgciaaDoor
open Go Go.RowKit
set_option linter.unusedVariables false
set_option linter.unusedSimpArgs false
set_option maxRecDepth 100000

/-! slices.IndexFunc and ContainsFunc over stretches, with deadEnd's function. -/
def PredX (bx ax : Nat) (p : Nat × Nat → Bool) (l : List (Nat × Nat)) (wb : World) : Prop :=
  ∀ (W : World) (s : Nat × Nat), Below wb.heap.size wb W → s ∈ l → Calls Tryd.prog 71 #[.agg #[.int .i64 (s.1 : Int), .int .i64 (s.2 : Int)], .pointer (some ⟨bx, 0, none⟩), .pointer (some ⟨ax, 0, none⟩)] W fun e w' => e = .returned (.bool (p s)) ∧ Below W.heap.size W w'
set_option maxHeartbeats 4000000 in
theorem strIndex_any (bx ax base gu cu : Nat) (p : Nat × Nat → Bool) (l : List (Nat × Nat)) (w : World) (hn : l.length ≤ 1048576) (hrow : w.ownsRow base 106 2 (.slice (some ⟨gu, 0, none⟩) l.length cu) l.length (strCells l)) (hP : PredX bx ax p l w) :
    Calls Tryd.prog 77 #[.slice (some ⟨gu, 0, none⟩) l.length cu, .func (.func 71) #[] #[.pointer (some ⟨bx, 0, none⟩), .pointer (some ⟨ax, 0, none⟩)]] w fun e w' => ∃ z : Int, e = .returned (.int .i64 z) ∧ (0 ≤ z ↔ l.any p = true) ∧ Below w.heap.size w w' := by
  have HS := hidd hrow
  have HP := hidd hP
  obtain ⟨B, hB⟩ : ∃ B, l.any p = B := ⟨_, rfl⟩
  rw [hB]
  have HQ := hidd hB
  clear hB
  clear hrow hP
  go_enter Tryd.func77, Tryd.ntmps77
  go_wp2_with fail
  go_loopw [8] (fun i wx => ∃ k : Nat, k ≤ l.length ∧ i = .int .i64 k ∧ (∀ j s, j < k → l[j]? = some s → p s = false) ∧ Below w.heap.size w wx) (fun i _ => l.length - (intOf i).toNat)
  case atStart => exact ⟨0, by omega, rfl, fun j s hj => absurd hj (by omega), Below.refl _ _⟩
  case round =>
    obtain ⟨k, hk, rfl, hno, hbx⟩ := hrel
    have HN := hidd hno
    have HB := hidd hbx
    clear hno hbx
    by_cases hlt : k < l.length
    · have hltz : (k : Int) < (l.length : Int) := by omega
      obtain ⟨s, hs⟩ : ∃ s, l[k]? = some s := ⟨_, List.getElem?_eq_getElem hlt⟩
      have y0 := own_cellk HS.out (str_at l k s hs).1
      have y1 := own_cellk HS.out (str_at l k s hs).2
      have z0 := (HB.out.cell (cell_lt y0)).trans y0
      have z1 := (HB.out.cell (cell_lt y1)).trans y1
      have HPk := hidd (HP.out wr s HB.out (List.mem_of_getElem? hs))
      have HF := hidd hs
      clear y0 y1 hs
      cases hp : p s with
      | false =>
        have HPn : Hid (∀ j s, j < k + 1 → l[j]? = some s → p s = false) := fun j s' hj hs' => by
          by_cases h : j < k
          · exact HN.out j s' h hs'
          · have : j = k := by omega
            subst this
            rw [HF.out] at hs'
            obtain rfl := Option.some.inj hs'
            exact hp
        rw [hp] at HPk
        clear hp
        go_wp2_with (go_at_call 71; refine HPk.out.mono ?_; rintro e w2 ⟨rfl, hb2⟩)
        go_roundw
        case rel => exact ⟨k + 1, by omega, by go_num, HPn.out, HB.out.trans (hb2.mono HB.out.size)⟩
        case measure => simp [intOf]; omega
      | true =>
        have HR : Hid (B = true) := by show _ = _; rw [← HQ.out]; exact List.any_eq_true.2 ⟨s, List.mem_of_getElem? HF.out, hp⟩
        rw [hp] at HPk
        clear hp
        go_wp2_with (go_at_call 71; refine HPk.out.mono ?_; rintro e w2 ⟨rfl, hb2⟩)
        go_ret
        exact ⟨(k : Int), rfl, ⟨fun _ => HR.out, fun _ => by omega⟩, HB.out.trans (hb2.mono HB.out.size)⟩
    · have hltz : ¬ (k : Int) < (l.length : Int) := by omega
      have HR : Hid (¬ B = true) := by
        intro h
        rw [← HQ.out] at h
        obtain ⟨x, hx, hp⟩ := List.any_eq_true.1 h
        obtain ⟨j, hj⟩ := List.mem_iff_getElem?.1 hx
        have := HN.out j x (by have := (List.getElem?_eq_some_iff.1 hj).1; omega) hj
        rw [hp] at this
        cases this
      go_wp2_with fail
      go_ret
      exact ⟨-1, rfl, ⟨fun h => by omega, fun h => absurd h HR.out⟩, HB.out⟩
set_option maxHeartbeats 4000000 in
theorem strContains_any (bx ax base gu cu : Nat) (p : Nat × Nat → Bool) (l : List (Nat × Nat)) (w : World) (hn : l.length ≤ 1048576) (hrow : w.ownsRow base 106 2 (.slice (some ⟨gu, 0, none⟩) l.length cu) l.length (strCells l)) (hP : PredX bx ax p l w) :
    Calls Tryd.prog 72 #[.slice (some ⟨gu, 0, none⟩) l.length cu, .func (.func 71) #[] #[.pointer (some ⟨bx, 0, none⟩), .pointer (some ⟨ax, 0, none⟩)]] w fun e w' => e = .returned (.bool (l.any p)) ∧ Below w.heap.size w w' := by
  have HI := hidd (strIndex_any bx ax base gu cu p l w hn hrow hP)
  clear hP hrow
  go_enter Tryd.func72, Tryd.ntmps72
  go_wp2_with fail
  refine HI.out.mono ?_
  rintro e w3 ⟨z, rfl, hz, hb3⟩
  have HZ := hidd hz
  clear hz
  go_wp2_with fail
  go_ret
  refine ⟨?_, hb3⟩
  show Ending.returned (Value.bool (decide (0 ≤ z))) = _
  congr 2
  rw [Bool.eq_iff_iff, decide_eq_true_eq]
  exact HZ.out
end Go.Proofs.YtmnfioghhdgciaaDoor
