import Derived.Test.YtmnfioghhdgciaaDoorWildJ38
namespace Go.Proofs.YtmnfioghhdgciaaDoor
open Go Go.RowKit
set_option linter.unusedVariables false
set_option linter.unusedSimpArgs false
set_option maxRecDepth 100000

/-! impl.Wildcard. -/
def wcCode (s : ByteArray) : Int := if decCode s = 0 then (if (decList s).length ≤ 30 ∧ (partsL (decList s)).count (-1) ≤ 8 then 0 else 12) else decCode s
theorem dec_runes {s : ByteArray} (h : decCode s = 0) : decList s = runes s ∧ s.size ≤ 65536 := by
  unfold decCode at h
  unfold decList decL
  split at h
  · omega
  · rename_i h1
    split at h
    · rename_i h2; rw [if_neg h1, if_pos h2]; exact ⟨rfl, by omega⟩
    · omega
theorem runeCount_len (s : ByteArray) : Lib.runeCount s = (runes s).length := by
  have key : ∀ f p, Lib.runeCountFrom s f p = (runesFrom s f p).length := by
    intro f
    induction f with
    | zero => intro p; rfl
    | succ f ih =>
      intro p
      by_cases h : p < s.size
      · rw [Lib.runeCountFrom, if_pos h, runesFrom_step s f p h, List.length_cons, ih]; omega
      · rw [Lib.runeCountFrom, if_neg h, runesFrom_end s _ p h]; rfl
  exact key _ _
def WiGood (P : List Int) (w : World) (e : Ending) (w' : World) : Prop :=
  ∃ ls C, RiseZ ls ∧ (∀ y, y ∈ ls ↔ y ∈ stW (P.map pieceI) ∧ 0 ≤ y) ∧ ls.length ≤ 30 ∧ CovOK (stW (P.map pieceI)) (lpN (P.map pieceI)).testBit C ∧ LwPost (wiK (stW (P.map pieceI)) (lpN (P.map pieceI)) C (letN ls)) ls (prn (stW (P.map pieceI)) (lpN (P.map pieceI)) C 1) w e w'
def WiAll (s : ByteArray) (w : World) (e : Ending) (w' : World) : Prop :=
  (wcCode s ≠ 0 ∧ e = .returned (.tuple #[.agg #[.slice none 0 0], .int .i64 (wcCode s)]) ∧ Below w.heap.size w w') ∨ (wcCode s = 0 ∧ WiGood (partsL (decList s)) w e w')
theorem wd_end {w w2 : World} (hb2 : Below (w.alloc (.cells #[.slice none 0 0] 24)).heap.size (w.alloc (.cells #[.slice none 0 0] 24)) w2) : w2.heap[w.heap.size]? = some (.cells #[.slice none 0 0] 24) ∧ Below w.heap.size w w2 :=
  ⟨blko (heap_alloc_new _ _) hb2, ((Below.refl _ _).alloc (Nat.le_refl _) _).trans (hb2.mono (by simp))⟩
theorem wd_fin {w w2 : World} (hres : w2.heap[w.heap.size]? = some (.cells #[.slice none 0 0] 24)) (hbw : Below w.heap.size w w2) : w2.cell? ⟨w.heap.size, 0, none⟩ = some (.slice none 0 0) ∧ w2.frozen? ⟨w.heap.size, 0, none⟩ = false ∧ (w2.setCell ⟨w.heap.size, 0, none⟩ (.slice none 0 0)).cell? ⟨w.heap.size, 0, none⟩ = some (.slice none 0 0) ∧ Below w.heap.size w (w2.setCell ⟨w.heap.size, 0, none⟩ (.slice none 0 0)) := by
  refine ⟨blkc hres 0, blkf hres 0, ?_, hbw.setCell (Nat.le_refl _) _⟩
  rw [blkc (blk_setk hres 0 (.slice none 0 0)) 0]; simp
theorem lw_move {K : Kaut Nat} {ls : List Int} {x0 : Nat} {w w8 w9 : World} {e : Ending} (hB : Below w.heap.size w w8) (hR : w8.heap[w.heap.size]? = some (.cells #[.slice none 0 0] 24)) (h : LwPost K ls x0 w8 e w9) :
    ∃ ad n c code, e = .returned (.tuple #[.agg #[.slice ad n c], .int .i64 code]) ∧ Below w8.heap.size w8 w9 ∧ ∀ W', (∀ b, b ≠ w.heap.size → W'.heap[b]? = w9.heap[b]?) → Below w.heap.size w W' → LwPost K ls x0 w (.returned (.tuple #[.agg #[.slice ad n c], .int .i64 code])) W' := by
  obtain ⟨h1, h2⟩ := h
  rcases h2 with ⟨rfl, h3⟩ | ⟨v, l, h3, h4, rfl, h5⟩
  · exact ⟨none, 0, 0, 11, rfl, h1, fun W' _ hb => ⟨hb, Or.inl ⟨rfl, h3⟩⟩⟩
  · obtain ⟨ad, c, rfl⟩ := own_slk h5.row
    refine ⟨ad, l.length, c, 0, rfl, h1, fun W' hk hb => ⟨hb, Or.inr ⟨_, l, h3, h4, rfl, ?_⟩⟩⟩
    refine (h5.lower hB.size).congr fun b cs t ht _ hh => ?_
    rw [hk b (by
      rintro rfl
      rw [blko hR h1] at hh
      simp only [Option.some.injEq, Obj.cells.injEq] at hh
      rcases ht with rfl | rfl
      · exact absurd hh.2.1 (by decide)
      · exact absurd hh.2.1 (by decide))]
    exact hh
theorem HoldU.own {W : World} {base : Nat} {v : Value} {Cl : List Nat} (h : W.ownsRow base 43 1 v Cl.length (zU Cl)) : HoldU W v (fun i => Cl.getD i 0) Cl.length := by
  rcases own_cases h with ⟨rfl, h0⟩ | ⟨g, cap, rfl, _, hg⟩
  · exact ⟨none, 0, by rw [h0], Or.inl h0⟩
  · refine ⟨_, cap, rfl, Or.inr ⟨g, 0, rfl, hg, fun t ht => ?_⟩⟩
    rw [Nat.zero_add]
    refine own_cellk h ?_
    unfold zU
    show _ = some (Value.int .u64 ((Cl.getD t 0 : Nat) : Int))
    rw [List.getElem?_map, List.getD_eq_getElem?_getD, List.getElem?_eq_getElem ht]
    rfl
theorem exec_loadIs (W : World) (ρ : Operand → Value) (o : Oper) (x : Operand) (ho : o.op = .load 30 x) (b off : Nat) (v : Value) (hx : ρ x = .pointer (some ⟨b, off, none⟩)) (h0 : W.cell? ⟨b, off, none⟩ = some v) : (execOp ρ o).run Tryd.prog W = .ok (.value v) W := by
  unfold execOp
  simp only [ho, Instr.loadAt, Instr.sureAddr, hx, Sem.run_bind, Sem.run_pure, Result.andThen_ok]
  go_simp
set_option maxHeartbeats 8000000 in
theorem implWild_any (s : ByteArray) (w : World) (hs : s.size ≤ 1048576) (hT : Tabs w) (hTz : TabAt (Tryd.laysTz_ren.g 1) Lib.deBruijn64tab w) :
    Calls Tryd.prog 5 #[.string s] w (WiAll s w) := by
  have HTx := hidd (textCode_any s (w.alloc (.cells #[.slice none 0 0] 24)) hs (hT.below ((Below.refl _ _).alloc (Nat.le_refl _) _)))
  have HTz := hidd hTz
  clear hT hTz
  go_enter Tryd.func5, Tryd.ntmps5
  go_wp2_with fail
  refine HTx.out.mono ?_
  rintro e w2 ⟨rfl, hb2⟩
  obtain ⟨hr2, hB2⟩ := wd_end hb2
  clear HTx hb2
  by_cases hc : decCode s = 0
  · obtain ⟨hdl, hsz⟩ := dec_runes hc
    have HRc := hidd (Tryd.utf8_RuneCountInString s w2 (by omega))
    rw [runeCount_len] at HRc
    have HWc : Hid (wcCode s = if (runes s).length ≤ 30 ∧ (partsL (runes s)).count (-1) ≤ 8 then 0 else 12) := by show _ = _; rw [wcCode, if_pos hc, hdl]
    have HDl := hidd hdl
    have HR2 := hidd hr2
    have HB2 := hidd hB2
    have HPo := hidd (parts_ok s)
    have hPL := partsL_len (runes s)
    rw [hc]
    clear hc hdl hr2 hB2
    go_wp2_with fail
    refine HRc.out.mono ?_
    rintro e w3 ⟨rfl, pos, hw3⟩
    have hb3 : Below w2.heap.size w2 w3 := by rw [hw3]; exact (Below.refl _ _).alloc (Nat.le_refl _) _
    have HB3 := hidd (HB2.out.trans (hb3.mono HB2.out.size))
    have HR3 := hidd (blko HR2.out hb3)
    clear hw3 hb3 HB2 HR2 HRc
    by_cases hl : (runes s).length ≤ 30
    · have hlz : ¬ (30 : Int) < ((runes s).length : Int) := by omega
      have HPc := hidd (piecesOf_any s w3 hsz)
      generalize hPP : partsL (runes s) = P at *
      generalize hnr : (runes s).length = nr at *
      go_wp2_with fail
      refine HPc.out.mono ?_
      rintro e w4 ⟨v4, rfl, ho4, hb4⟩
      have hQl : (pcs P).length ≤ 30 := by unfold pcs; rw [List.length_map]; omega
      have HB4 := hidd (HB3.out.trans (hb4.mono HB3.out.size))
      have HR4 := hidd (blko HR3.out hb4)
      have HWf := hidd (wildcardOf_any v4 (pcs P) w4 hQl (HoldI.own ho4) (tab_below HTz.out HB4.out))
      obtain ⟨a4, c4, rfl⟩ := own_slk ho4
      clear ho4 hb4 HPc HB3 HR3 HTz
      go_wp2_with fail
      refine HWf.out.mono ?_
      rintro e w5 ⟨vs, vc, Cl, rfl, hos, hoc, hCl, hCv, hb5⟩
      have HB5 := hidd (HB4.out.trans (hb5.mono HB4.out.size))
      have HR5 := hidd (blko HR4.out hb5)
      have hTl : (stW (pcs P)).length ≤ 30 := Nat.le_trans (stW_len _) hQl
      have HT := hidd (stW_of HPo.out)
      have HCt := hidd (count_same P HPo.out)
      have HCo : Hid (CovOK (stW (pcs P)) (lpN (pcs P)).testBit (fun i => Cl.getD i 0)) := fun p hp q => (hCv p (by omega)).2 q
      have HCb : Hid (∀ k, k < (stW (pcs P)).length → Cl.getD k 0 < 2147483648) := fun k hk => (hCv k (by omega)).1
      have HLl : Hid (∀ l, (lpN (pcs P)).testBit l = true → l ≤ (stW (pcs P)).length) := fun l hl => lpN_le hl
      have hLb := lpN_lt hTl
      have HS5 := hidd (HoldI.own hos)
      have HC5 : Hid (HoldU w5 vc (fun i => Cl.getD i 0) (stW (pcs P)).length) := by have := HoldU.own hoc; rw [hCl] at this; exact this
      obtain ⟨sa, cs, rfl⟩ := own_slk hos
      obtain ⟨ac, cc, hvc⟩ := own_slk hoc
      rw [hCl] at hvc
      subst hvc
      have HMem := hidd (stW_pos HPo.out)
      have HGd : Hid (∀ e w', WiGood P w e w' → WiAll s w e w' ∨ wcCode s ≠ 0) := fun e w' h => by
        by_cases h0 : wcCode s = 0
        · exact Or.inl (Or.inr ⟨h0, by rw [HDl.out, hPP]; exact h⟩)
        · exact Or.inr h0
      have HWc2 : Hid (wcCode s = if P.count (-1) ≤ 8 then 0 else 12) := by
        show _ = _
        rw [HWc.out]
        by_cases h8 : P.count (-1) ≤ 8
        · rw [if_pos ⟨hl, h8⟩, if_pos h8]
        · rw [if_neg (fun h => h8 h.2), if_neg h8]
      have hpe : P.map pieceI = pcs P := rfl
      rw [hpe] at HT HCt HMem
      unfold WiGood at HGd
      rw [hpe] at HGd
      clear hos hoc hCl hCv hb5 HWf HB4 HR4 HPo hPP hnr hpe HWc HDl
      generalize lpN (pcs P) = L at *
      generalize stW (pcs P) = T at *
      generalize hCC : (fun i => Cl.getD i 0) = C at *
      have HCb2 : Hid (∀ k, k < T.length → C k < 2147483648) := fun k hk => by rw [← hCC]; exact HCb.out k hk
      clear hCC HCb
      go_upto_region 7 with fail
      have hb6 : Below w5.heap.size w5 (w5.alloc (.cells (wcV (.slice sa T.length cs) L (.slice ac T.length cc)) 46)) := (Below.refl _ _).alloc (Nat.le_refl _) _
      have hn6 := heap_alloc_new w5 (.cells (wcV (.slice sa T.length cs) L (.slice ac T.length cc)) 46)
      have HB6 := hidd (HB5.out.trans (hb6.mono HB5.out.size))
      have HR6 := hidd (blko HR5.out hb6)
      have HS6 := hidd (HS5.out.below hb6)
      have HC6 := hidd (HC5.out.below hb6)
      have hfr : w.heap.size < w5.heap.size := (Array.getElem?_eq_some_iff.1 HR5.out).1
      obtain ⟨fb, hfb⟩ : ∃ fb, w5.heap.size = fb := ⟨_, rfl⟩
      rw [hfb] at hn6 hfr
      simp only [hfb]
      generalize w5.alloc (.cells (wcV (.slice sa T.length cs) L (.slice ac T.length cc)) 46) = W6 at *
      clear hfb hb6 HB5 HR5 HS5 HC5
      have a0 := blkc hn6 0
      have a1 := blkc hn6 1
      have a2 := blkc hn6 2
      have HAn := hidd (anys_any (.slice sa T.length cs) (.slice ac T.length cc) L T W6 (by omega) HS6.out)
      rw [HCt.out] at HAn
      have HN6 := hidd hn6
      clear hn6
      go_wp2_with fail
      refine HAn.out.mono ?_
      rintro e w7 ⟨rfl, hb7⟩
      have HB7 := hidd (HB6.out.trans (hb7.mono HB6.out.size))
      have HR7 := hidd (blko HR6.out hb7)
      have HN7 := hidd (blko HN6.out hb7)
      have HS7 := hidd (HS6.out.below hb7)
      have HC7 := hidd (HC6.out.below hb7)
      clear hb7 HB6 HR6 HN6 HS6 HC6 HAn a0 a1 a2
      generalize P.count (-1) = cnt at *
      by_cases h8 : cnt ≤ 8
      · have h8z : ¬ (8 : Int) < (cnt : Int) := by omega
        have HX0 : Hid (prn T L C 1 = pr2 C (pr1 L 1) T.length) := rfl
        obtain ⟨x0, hx0⟩ : ∃ x0, prn T L C 1 = x0 := ⟨_, rfl⟩
        have HPr : Hid (∀ W, HoldU W (.slice ac T.length cc) C T.length → Calls Tryd.prog 21 #[.agg (wcV (.slice sa T.length cs) L (.slice ac T.length cc)), .agg (plV 1)] W fun e w' => e = .returned (.agg (plV x0)) ∧ Below W.heap.size W w') := fun W hW => by
          have := pruned_any (.slice sa T.length cs) (.slice ac T.length cc) L 1 T.length C W hTl (by omega) hLb HCb2.out hW ⟨_, _, _, rfl⟩
          rw [← HX0.out, hx0] at this
          exact this
        have HX1 := hidd hx0
        clear hx0 HX0
        go_upto_region 9 with fail
        refine wp_region_held (S := fun u => u.heap[fb]? = some (.cells (wcV (.slice sa T.length cs) L (.slice ac T.length cc)) 46)) (by kernel_rfl) ?_
        have hbd : Below w7.heap.size w7 ({ heap := w7.heap, tape := w7.tape, drawn := w7.drawn + 1, os := w7.os, output := w7.output } : World) := (Below.refl _ _).drew
        generalize ({ heap := w7.heap, tape := w7.tape, drawn := w7.drawn + 1, os := w7.os, output := w7.output } : World) = Wd at *
        have hSd : (fun u : World => u.heap[fb]? = some (.cells (wcV (.slice sa T.length cs) L (.slice ac T.length cc)) 46)) Wd := blko HN7.out hbd
        have hCd := HC7.out.below hbd
        have hId := HS7.out.below hbd
        have hBd := HB7.out.trans (hbd.mono HB7.out.size)
        have hRd := blko HR7.out hbd
        have hwd : w.heap.size < Wd.heap.size := (Array.getElem?_eq_some_iff.1 hRd).1
        try simp only [Act.put, List.getElem_toArray, List.getElem_cons_succ, List.getElem_cons_zero, List.setIfInBounds_toArray, List.set_cons_zero, List.set_cons_succ]
        refine wpAnyH_take (i := 0) (v := .agg (wcV (.slice sa T.length cs) L (.slice ac T.length cc))) rfl (by kernel_rfl) (by kernel_rfl) (by kernel_rfl) (fun _ _ _ h => h) (Or.inl ⟨by kernel_rfl, fun W hW => exec_loadW W _ _ _ rfl fb sa ac T.length cs T.length cc (L : Int) (by kernel_rfl) (blkc hW 0) (blkc hW 1) (blkc hW 2)⟩) hSd ?_
        try simp only [Act.put, List.getElem_toArray, List.getElem_cons_succ, List.getElem_cons_zero, List.setIfInBounds_toArray, List.set_cons_zero, List.set_cons_succ]
        refine tkX 1 (v := .agg (plV 1)) (hS := hSd) (h := ?_)
        try simp only [Act.put, List.getElem_toArray, List.getElem_cons_succ, List.getElem_cons_zero, List.setIfInBounds_toArray, List.set_cons_zero, List.set_cons_succ]
        refine wpAnyH_take (i := 3) (v := .agg (wcV (.slice sa T.length cs) L (.slice ac T.length cc))) rfl (by kernel_rfl) (by kernel_rfl) (by kernel_rfl) (fun _ _ _ h => h) (Or.inl ⟨by kernel_rfl, fun W hW => exec_loadW W _ _ _ rfl fb sa ac T.length cs T.length cc (L : Int) (by kernel_rfl) (blkc hW 0) (blkc hW 1) (blkc hW 2)⟩) hSd ?_
        try simp only [Act.put, List.getElem_toArray, List.getElem_cons_succ, List.getElem_cons_zero, List.setIfInBounds_toArray, List.set_cons_zero, List.set_cons_succ]
        refine tkX 4 (v := folW (.agg (wcV (.slice sa T.length cs) L (.slice ac T.length cc)))) (hS := hSd) (h := ?_)
        try simp only [Act.put, List.getElem_toArray, List.getElem_cons_succ, List.getElem_cons_zero, List.setIfInBounds_toArray, List.set_cons_zero, List.set_cons_succ]
        refine wpAnyH_take (i := 5) (v := .agg (wcV (.slice sa T.length cs) L (.slice ac T.length cc))) rfl (by kernel_rfl) (by kernel_rfl) (by kernel_rfl) (fun _ _ _ h => h) (Or.inl ⟨by kernel_rfl, fun W hW => exec_loadW W _ _ _ rfl fb sa ac T.length cs T.length cc (L : Int) (by kernel_rfl) (blkc hW 0) (blkc hW 1) (blkc hW 2)⟩) hSd ?_
        try simp only [Act.put, List.getElem_toArray, List.getElem_cons_succ, List.getElem_cons_zero, List.setIfInBounds_toArray, List.set_cons_zero, List.set_cons_succ]
        refine tkX 6 (v := finW (.agg (wcV (.slice sa T.length cs) L (.slice ac T.length cc)))) (hS := hSd) (h := ?_)
        try simp only [Act.put, List.getElem_toArray, List.getElem_cons_succ, List.getElem_cons_zero, List.setIfInBounds_toArray, List.set_cons_zero, List.set_cons_succ]
        refine wpAnyH_two 2 8 (by kernel_rfl) ?ha1 ?hb1
        case' ha1 =>
          refine wpOp_call 21 #[.agg (wcV (.slice sa T.length cs) L (.slice ac T.length cc)), .agg (plV 1)] rfl (by kernel_rfl) (rbx_call2 _ _ _ _ _ _ _ _ rfl _ _ (by kernel_rfl) (by kernel_rfl) (Tryd.call21 _ _)) ?_
          refine (HPr.out Wd hCd).mono ?_
          rintro e w8 ⟨rfl, hb8⟩
          have hS8 : (fun u : World => u.heap[fb]? = some (.cells (wcV (.slice sa T.length cs) L (.slice ac T.length cc)) 46)) w8 := blko hSd hb8
          refine ⟨hS8, ?_⟩
          try simp only [Act.put, List.getElem_toArray, List.getElem_cons_succ, List.getElem_cons_zero, List.setIfInBounds_toArray, List.set_cons_zero, List.set_cons_succ]
          refine wpAnyH_take (i := 7) (v := .agg #[.int .u64 (x0 : Int), folW (.agg (wcV (.slice sa T.length cs) L (.slice ac T.length cc))), finW (.agg (wcV (.slice sa T.length cs) L (.slice ac T.length cc))), .int .i64 257]) rfl (by kernel_rfl) (by kernel_rfl) (by kernel_rfl) (fun _ _ _ h => h) (Or.inl ⟨by kernel_rfl, fun W hW => exec_buildWk W _ _ _ _ _ _ rfl (x0 : Int) 257 22 23 (.agg (wcV (.slice sa T.length cs) L (.slice ac T.length cc))) (.agg (wcV (.slice sa T.length cs) L (.slice ac T.length cc))) (by kernel_rfl) (by kernel_rfl) (by kernel_rfl) (by kernel_rfl)⟩) hS8 ?_
          try simp only [Act.put, List.getElem_toArray, List.getElem_cons_succ, List.getElem_cons_zero, List.setIfInBounds_toArray, List.set_cons_zero, List.set_cons_succ]
          have hb9 : Below w8.heap.size w8 (w8.alloc (.cells #[.int .u64 0, .nilFunc, .nilFunc, .int .i64 0] 56)) := (Below.refl _ _).alloc (Nat.le_refl _) _
          have hnX := heap_alloc_new w8 (.cells #[.int .u64 0, .nilFunc, .nilFunc, .int .i64 0] 56)
          have hSX := blko hS8 hb9
          have hdX : Below Wd.heap.size Wd (w8.alloc (.cells #[.int .u64 0, .nilFunc, .nilFunc, .int .i64 0] 56)) := hb8.trans (hb9.mono hb8.size)
          have hdp : Wd.heap.size ≤ w8.heap.size := hb8.size
          have hpf : fb ≠ w8.heap.size := by have := (Array.getElem?_eq_some_iff.1 hS8).1; omega
          refine wpAnyH_one 8 (by kernel_rfl) ?_
          refine wpOp_val _ _ rfl (by kernel_rfl) (exec_allocWk _ _ _ rfl) ?_
          refine ⟨hSX, ?_⟩
          clear hb9 hS8 hb8
          generalize w8.alloc (.cells #[.int .u64 0, .nilFunc, .nilFunc, .int .i64 0] 56) = X at *
          generalize w8.heap.size = pb at *
        case' hb1 =>
          refine wpOp_val _ _ rfl (by kernel_rfl) (exec_allocWk _ _ _ rfl) ?_
          have hb9 : Below Wd.heap.size Wd (Wd.alloc (.cells #[.int .u64 0, .nilFunc, .nilFunc, .int .i64 0] 56)) := (Below.refl _ _).alloc (Nat.le_refl _) _
          have hn9 := heap_alloc_new Wd (.cells #[.int .u64 0, .nilFunc, .nilFunc, .int .i64 0] 56)
          have hS9 := blko hSd hb9
          refine ⟨hS9, ?_⟩
          try simp only [Act.put, List.getElem_toArray, List.getElem_cons_succ, List.getElem_cons_zero, List.setIfInBounds_toArray, List.set_cons_zero, List.set_cons_succ]
          refine wpAnyH_one 2 (by kernel_rfl) ?_
          refine wpOp_call 21 #[.agg (wcV (.slice sa T.length cs) L (.slice ac T.length cc)), .agg (plV 1)] rfl (by kernel_rfl) (rbx_call2 _ _ _ _ _ _ _ _ rfl _ _ (by kernel_rfl) (by kernel_rfl) (Tryd.call21 _ _)) ?_
          refine (HPr.out _ (hCd.below hb9)).mono ?_
          rintro e X ⟨rfl, hb8⟩
          have hnX := blko hn9 hb8
          have hSX := blko hS9 hb8
          have hdX : Below Wd.heap.size Wd X := hb9.trans (hb8.mono hb9.size)
          have hpf : fb ≠ Wd.heap.size := by have := (Array.getElem?_eq_some_iff.1 hSd).1; omega
          refine ⟨hSX, ?_⟩
          try simp only [Act.put, List.getElem_toArray, List.getElem_cons_succ, List.getElem_cons_zero, List.setIfInBounds_toArray, List.set_cons_zero, List.set_cons_succ]
          refine wpAnyH_take (i := 7) (v := .agg #[.int .u64 (x0 : Int), folW (.agg (wcV (.slice sa T.length cs) L (.slice ac T.length cc))), finW (.agg (wcV (.slice sa T.length cs) L (.slice ac T.length cc))), .int .i64 257]) rfl (by kernel_rfl) (by kernel_rfl) (by kernel_rfl) (fun _ _ _ h => h) (Or.inl ⟨by kernel_rfl, fun W hW => exec_buildWk W _ _ _ _ _ _ rfl (x0 : Int) 257 22 23 (.agg (wcV (.slice sa T.length cs) L (.slice ac T.length cc))) (.agg (wcV (.slice sa T.length cs) L (.slice ac T.length cc))) (by kernel_rfl) (by kernel_rfl) (by kernel_rfl) (by kernel_rfl)⟩) hSX ?_
          try simp only [Act.put, List.getElem_toArray, List.getElem_cons_succ, List.getElem_cons_zero, List.setIfInBounds_toArray, List.set_cons_zero, List.set_cons_succ]
          clear hb9 hn9 hS9 hb8
          obtain ⟨pb, hpb⟩ : ∃ pb, pb = Wd.heap.size := ⟨_, rfl⟩
          have hdp : Wd.heap.size ≤ pb := by omega
          rw [← hpb] at hnX hpf
          simp only [← hpb]
          clear hpb
        all_goals
          have hsv := four_set hnX (.int .u64 (x0 : Int)) (folW (.agg (wcV (.slice sa T.length cs) L (.slice ac T.length cc)))) (finW (.agg (wcV (.slice sa T.length cs) L (.slice ac T.length cc)))) (.int .i64 257)
          have hne : ∀ b, b ≠ pb → ((((X.setCell ⟨pb, 0, none⟩ (.int .u64 (x0 : Int))).setCell ⟨pb, 1, none⟩ (folW (.agg (wcV (.slice sa T.length cs) L (.slice ac T.length cc))))).setCell ⟨pb, 2, none⟩ (finW (.agg (wcV (.slice sa T.length cs) L (.slice ac T.length cc))))).setCell ⟨pb, 3, none⟩ (.int .i64 257)).heap[b]? = X.heap[b]? := fun b hb => by
            rw [heap_set_other _ _ _ _ _ hb, heap_set_other _ _ _ _ _ hb, heap_set_other _ _ _ _ _ hb, heap_set_other _ _ _ _ _ hb]
          try simp only [Act.put, List.getElem_toArray, List.getElem_cons_succ, List.getElem_cons_zero, List.setIfInBounds_toArray, List.set_cons_zero, List.set_cons_succ]
          refine wpAnyH_one 9 (by kernel_rfl) ?_
          refine wpOp_skip _ rfl (by kernel_rfl) (exec_storeWk _ _ _ _ _ rfl pb (x0 : Int) 257 22 23 (.agg (wcV (.slice sa T.length cs) L (.slice ac T.length cc))) (.agg (wcV (.slice sa T.length cs) L (.slice ac T.length cc))) _ _ _ _ (by kernel_rfl) (by kernel_rfl) hnX) ?_
          refine ⟨(hne fb hpf).trans hSX, ?_⟩
          try simp only [Act.put, List.getElem_toArray, List.getElem_cons_succ, List.getElem_cons_zero, List.setIfInBounds_toArray, List.set_cons_zero, List.set_cons_succ]
          refine wpAnyH_done (by kernel_rfl) ?_ _
          have hd8 : Below Wd.heap.size Wd ((((X.setCell ⟨pb, 0, none⟩ (.int .u64 (x0 : Int))).setCell ⟨pb, 1, none⟩ (folW (.agg (wcV (.slice sa T.length cs) L (.slice ac T.length cc))))).setCell ⟨pb, 2, none⟩ (finW (.agg (wcV (.slice sa T.length cs) L (.slice ac T.length cc))))).setCell ⟨pb, 3, none⟩ (.int .i64 257)) := (((hdX.setCell hdp _).setCell hdp _).setCell hdp _).setCell hdp _
          have hSf := (hne fb hpf).trans hSX
          generalize (((X.setCell ⟨pb, 0, none⟩ (.int .u64 (x0 : Int))).setCell ⟨pb, 1, none⟩ (folW (.agg (wcV (.slice sa T.length cs) L (.slice ac T.length cc))))).setCell ⟨pb, 2, none⟩ (finW (.agg (wcV (.slice sa T.length cs) L (.slice ac T.length cc))))).setCell ⟨pb, 3, none⟩ (.int .i64 257) = W8 at *
          have HB8 := hidd (hBd.trans (hd8.mono hBd.size))
          have HR8 := hidd (blko hRd hd8)
          have HI8 := hidd (hId.below hd8)
          have HC8 := hidd (hCd.below hd8)
          have hpw : w.heap.size < pb := by omega
          clear hd8 hne hnX hSX hdX hdp hpf hRd hBd hCd hId hSd hbd HB7 HR7 HN7 HS7 HC7 hwd HPr
          go_upto_region 10 with fail
          refine wp_region_held (S := fun u => u.heap[pb]? = some (.cells #[.int .u64 (x0 : Int), folW (.agg (wcV (.slice sa T.length cs) L (.slice ac T.length cc))), finW (.agg (wcV (.slice sa T.length cs) L (.slice ac T.length cc))), .int .i64 257] 56) ∧ u.heap[fb]? = some (.cells (wcV (.slice sa T.length cs) L (.slice ac T.length cc)) 46)) (by kernel_rfl) ?_
          have hbe : Below W8.heap.size W8 ({ heap := W8.heap, tape := W8.tape, drawn := W8.drawn + 1, os := W8.os, output := W8.output } : World) := (Below.refl _ _).drew
          generalize ({ heap := W8.heap, tape := W8.tape, drawn := W8.drawn + 1, os := W8.os, output := W8.output } : World) = We at *
          have hSe : (fun u : World => u.heap[pb]? = some (.cells #[.int .u64 (x0 : Int), folW (.agg (wcV (.slice sa T.length cs) L (.slice ac T.length cc))), finW (.agg (wcV (.slice sa T.length cs) L (.slice ac T.length cc))), .int .i64 257] 56) ∧ u.heap[fb]? = some (.cells (wcV (.slice sa T.length cs) L (.slice ac T.length cc)) 46)) We := ⟨blko hsv hbe, blko hSf hbe⟩
          have hIe := HI8.out.below hbe
          have hCe := HC8.out.below hbe
          have hBe := HB8.out.trans (hbe.mono HB8.out.size)
          have hRe := blko HR8.out hbe
          have hSp := spelledW_any (.slice sa T.length cs) T We (by omega) (fun x hx => (HT.out x hx).2) hIe
          try simp only [Act.put, List.getElem_toArray, List.getElem_cons_succ, List.getElem_cons_zero, List.setIfInBounds_toArray, List.set_cons_zero, List.set_cons_succ]
          refine wpAnyH_take (i := 0) (v := .agg #[.int .u64 (x0 : Int), folW (.agg (wcV (.slice sa T.length cs) L (.slice ac T.length cc))), finW (.agg (wcV (.slice sa T.length cs) L (.slice ac T.length cc))), .int .i64 257]) rfl (by kernel_rfl) (by kernel_rfl) (by kernel_rfl) (fun _ _ _ h => h) (Or.inl ⟨by kernel_rfl, fun W hW => exec_loadWk W _ _ _ rfl pb (x0 : Int) 257 22 23 (.agg (wcV (.slice sa T.length cs) L (.slice ac T.length cc))) (.agg (wcV (.slice sa T.length cs) L (.slice ac T.length cc))) (by kernel_rfl) (blkc hW.1 0) (blkc hW.1 1) (blkc hW.1 2) (blkc hW.1 3)⟩) hSe ?_
          try simp only [Act.put, List.getElem_toArray, List.getElem_cons_succ, List.getElem_cons_zero, List.setIfInBounds_toArray, List.set_cons_zero, List.set_cons_succ]
          refine tkX 1 (v := .pointer (some ⟨fb, 0, none⟩)) (hS := hSe) (h := ?_)
          try simp only [Act.put, List.getElem_toArray, List.getElem_cons_succ, List.getElem_cons_zero, List.setIfInBounds_toArray, List.set_cons_zero, List.set_cons_succ]
          refine wpAnyH_take (i := 2) (v := .slice sa T.length cs) rfl (by kernel_rfl) (by kernel_rfl) (by kernel_rfl) (fun _ _ _ h => h) (Or.inl ⟨by kernel_rfl, fun W hW => exec_loadIs W _ _ _ rfl fb 0 (.slice sa T.length cs) (by kernel_rfl) (blkc hW.2 0)⟩) hSe ?_
          try simp only [Act.put, List.getElem_toArray, List.getElem_cons_succ, List.getElem_cons_zero, List.setIfInBounds_toArray, List.set_cons_zero, List.set_cons_succ]
          refine wpAnyH_one 3 (by kernel_rfl) ?_
          refine wpOp_call 25 #[.slice sa T.length cs] rfl (by kernel_rfl) (rbx_call1 _ _ _ _ _ _ rfl _ (by kernel_rfl) (Tryd.call25 _ _)) ?_
          refine hSp.mono ?_
          rintro e w9 ⟨ls, vr, vy, vz, vq, hri, hme, hll, rfl, q1, q2, q3, q4, hb9⟩
          have hS9 : (fun u : World => u.heap[pb]? = some (.cells #[.int .u64 (x0 : Int), folW (.agg (wcV (.slice sa T.length cs) L (.slice ac T.length cc))), finW (.agg (wcV (.slice sa T.length cs) L (.slice ac T.length cc))), .int .i64 257] 56) ∧ u.heap[fb]? = some (.cells (wcV (.slice sa T.length cs) L (.slice ac T.length cc)) 46)) w9 := ⟨blko hSe.1 hb9, blko hSe.2 hb9⟩
          have hI9 := hIe.below hb9
          have hC9 := hCe.below hb9
          have hB9 := hBe.trans (hb9.mono hBe.size)
          have hR9 := blko hRe hb9
          have hLe : Calls Tryd.prog 24 #[.agg #[.int .u64 (x0 : Int), folW (.agg (wcV (.slice sa T.length cs) L (.slice ac T.length cc))), finW (.agg (wcV (.slice sa T.length cs) L (.slice ac T.length cc))), .int .i64 257], .agg #[vr, vy, vz, vq]] w9 (LwPost (wiK T L C (letN ls)) ls (prn T L C 1) w9) := by
            have h1 := least_place (.agg (wcV (.slice sa T.length cs) L (.slice ac T.length cc))) vr vy vz vq (wiK T L C (letN ls)) (okV T L C ls) (prn T L C 1) ls w9 (by omega) (okV.first HCo.out) (fun x j hx hj => hx.step HCo.out HLl.out hj) (fun x hx => hx.1.lt hTl)
              (fun s j W hW hs hj => followW_any (.slice sa T.length cs) (.slice ac T.length cc) L s T C (letN ls j) W hTl (hs.1.lt hTl) hLb HCb2.out (hC9.below hW) (hI9.below hW))
              (fun s W hW hs => finalW_any (.slice sa T.length cs) (.slice ac T.length cc) L s T W hTl (hs.1.lt hTl) (hI9.below hW))
              (fun hm => many_big HCo.out HLl.out (fun t ht => (HT.out t ht).1) (fun t ht h0 => (hme t).2 ⟨ht, h0⟩) hm) q1 q2 q3 q4
            rw [HX1.out] at h1
            rw [HX1.out]
            exact h1
          refine ⟨hS9, ?_⟩
          try simp only [Act.put, List.getElem_toArray, List.getElem_cons_succ, List.getElem_cons_zero, List.setIfInBounds_toArray, List.set_cons_zero, List.set_cons_succ]
          refine wpAnyH_one 4 (by kernel_rfl) ?_
          refine wpOp_call 24 #[.agg #[.int .u64 (x0 : Int), folW (.agg (wcV (.slice sa T.length cs) L (.slice ac T.length cc))), finW (.agg (wcV (.slice sa T.length cs) L (.slice ac T.length cc))), .int .i64 257], .agg #[vr, vy, vz, vq]] rfl (by kernel_rfl) (rbx_call2 _ _ _ _ _ _ _ _ rfl _ _ (by kernel_rfl) (by kernel_rfl) (Tryd.call24 _ _)) ?_
          refine hLe.mono ?_
          rintro e wA hpA
          obtain ⟨adA, nA, cA, codeA, rfl, hbA, hfin⟩ := lw_move (w := w) hB9 hR9 hpA
          have hSA : (fun u : World => u.heap[pb]? = some (.cells #[.int .u64 (x0 : Int), folW (.agg (wcV (.slice sa T.length cs) L (.slice ac T.length cc))), finW (.agg (wcV (.slice sa T.length cs) L (.slice ac T.length cc))), .int .i64 257] 56) ∧ u.heap[fb]? = some (.cells (wcV (.slice sa T.length cs) L (.slice ac T.length cc)) 46)) wA := ⟨blko hS9.1 hbA, blko hS9.2 hbA⟩
          have hRA := blko hR9 hbA
          have hBA := hB9.trans (hbA.mono hB9.size)
          have HEn : Hid (WiAll s w (.returned (.tuple #[.agg #[.slice adA nA cA], .int .i64 codeA])) (wA.setCell ⟨w.heap.size, 0, none⟩ (.slice adA nA cA)) ∧ (wA.setCell ⟨w.heap.size, 0, none⟩ (.slice adA nA cA)).cell? ⟨w.heap.size, 0, none⟩ = some (.slice adA nA cA)) := by
            have h1 := hfin (wA.setCell ⟨w.heap.size, 0, none⟩ (.slice adA nA cA)) (fun b hb => heap_set_other _ _ _ _ _ hb) (hBA.setCell (p := ⟨w.heap.size, 0, none⟩) (Nat.le_refl _) _)
            refine ⟨?_, by rw [blkc (blk_setk hRA 0 _) 0]; simp⟩
            rcases HGd.out _ _ ⟨ls, C, hri, hme, by omega, HCo.out, h1⟩ with h | h
            · exact h
            · exact absurd (by rw [HWc2.out, if_pos h8]) h
          refine ⟨hSA, ?_⟩
          try simp only [Act.put, List.getElem_toArray, List.getElem_cons_succ, List.getElem_cons_zero, List.setIfInBounds_toArray, List.set_cons_zero, List.set_cons_succ]
          refine wpAnyH_take (i := 5) (v := .agg #[.slice adA nA cA]) rfl (by kernel_rfl) (by kernel_rfl) (by kernel_rfl) (fun _ _ _ h => h) (Or.inl ⟨by kernel_rfl, fun W hW => exec_ext W _ _ _ 0 rfl (.agg #[.slice adA nA cA]) (.int .i64 codeA) _ (by kernel_rfl) rfl⟩) hSA ?_
          try simp only [Act.put, List.getElem_toArray, List.getElem_cons_succ, List.getElem_cons_zero, List.setIfInBounds_toArray, List.set_cons_zero, List.set_cons_succ]
          refine wpAnyH_take (i := 6) (v := .int .i64 codeA) rfl (by kernel_rfl) (by kernel_rfl) (by kernel_rfl) (fun _ _ _ h => h) (Or.inl ⟨by kernel_rfl, fun W hW => exec_ext W _ _ _ 1 rfl (.agg #[.slice adA nA cA]) (.int .i64 codeA) _ (by kernel_rfl) rfl⟩) hSA ?_
          try simp only [Act.put, List.getElem_toArray, List.getElem_cons_succ, List.getElem_cons_zero, List.setIfInBounds_toArray, List.set_cons_zero, List.set_cons_succ]
          refine wpAnyH_one 7 (by kernel_rfl) ?_
          refine wpOp_skip _ rfl (by kernel_rfl) (exec_storeDfa _ _ _ _ _ rfl w.heap.size adA nA cA (.slice none 0 0) (by kernel_rfl) (by kernel_rfl) (blkc hRA 0) (blkf hRA 0)) ?_
          have hSB : (fun u : World => u.heap[pb]? = some (.cells #[.int .u64 (x0 : Int), folW (.agg (wcV (.slice sa T.length cs) L (.slice ac T.length cc))), finW (.agg (wcV (.slice sa T.length cs) L (.slice ac T.length cc))), .int .i64 257] 56) ∧ u.heap[fb]? = some (.cells (wcV (.slice sa T.length cs) L (.slice ac T.length cc)) 46)) (wA.setCell ⟨w.heap.size, 0, none⟩ (.slice adA nA cA)) := ⟨(heap_set_other _ _ _ _ _ (by omega)).trans hSA.1, (heap_set_other _ _ _ _ _ (by omega)).trans hSA.2⟩
          refine ⟨hSB, ?_⟩
          try simp only [Act.put, List.getElem_toArray, List.getElem_cons_succ, List.getElem_cons_zero, List.setIfInBounds_toArray, List.set_cons_zero, List.set_cons_succ]
          refine tkX 8 (v := .int .i64 codeA) (hS := hSB) (h := ?_)
          try simp only [Act.put, List.getElem_toArray, List.getElem_cons_succ, List.getElem_cons_zero, List.setIfInBounds_toArray, List.set_cons_zero, List.set_cons_succ]
          refine wpAnyH_done (by kernel_rfl) ?_ _
          clear hSB hSA hRA hBA hfin hbA hLe hS9 hI9 hC9 hB9 hR9 hSp hRe hBe hIe hCe hSe hbe q1 q2 q3 q4 hb9 hsv hSf
          go_wp2_with fail
          obtain ⟨en1, en2⟩ := HEn.out
          refine bodyPost_ret (v := .tuple #[.agg #[.slice adA nA cA], .int .i64 codeA]) (by simp [results, Tryd.results5, go_sem, en2]) rfl ?_
          exact en1
      · have h8z : (8 : Int) < (cnt : Int) := by omega
        have HE : Hid (wcCode s = 12) := by show _ = _; rw [HWc2.out, if_neg h8]
        obtain ⟨e1, e2, e3, e4⟩ := wd_fin HR7.out HB7.out
        have HFin : Hid (WiAll s w (.returned (.tuple #[.agg #[.slice none 0 0], .int .i64 12])) (w7.setCell ⟨w.heap.size, 0, none⟩ (.slice none 0 0))) := Or.inl ⟨by rw [HE.out]; omega, by rw [HE.out], e4⟩
        have He3 := hidd e3
        clear e3 e4
        go_wp2_with fail
        refine bodyPost_ret (v := .tuple #[.agg #[.slice none 0 0], .int .i64 12]) (by have q := He3.out; simp [results, Tryd.results5, go_sem, q]) rfl ?_
        exact HFin.out
    · have hlz : (30 : Int) < ((runes s).length : Int) := by omega
      have HE : Hid (wcCode s = 12) := by show _ = _; rw [HWc.out, if_neg (fun h => hl h.1)]
      obtain ⟨e1, e2, e3, e4⟩ := wd_fin HR3.out HB3.out
      have HFin : Hid (WiAll s w (.returned (.tuple #[.agg #[.slice none 0 0], .int .i64 12])) (w3.setCell ⟨w.heap.size, 0, none⟩ (.slice none 0 0))) := Or.inl ⟨by rw [HE.out]; omega, by rw [HE.out], e4⟩
      have He3 := hidd e3
      generalize (runes s).length = nr at *
      clear e3 e4
      go_wp2_with fail
      refine bodyPost_ret (v := .tuple #[.agg #[.slice none 0 0], .int .i64 12]) (by have q := He3.out; simp [results, Tryd.results5, go_sem, q]) rfl ?_
      exact HFin.out
  · obtain ⟨e1, e2, e3, e4⟩ := wd_fin hr2 hB2
    have HE : Hid (wcCode s = decCode s) := by show _ = _; rw [wcCode, if_neg hc]
    obtain ⟨cd, hcd⟩ : ∃ cd, decCode s = cd := ⟨_, rfl⟩
    rw [hcd] at hc HE ⊢
    have hcb : (cd != 0) = true := by simpa using hc
    have HFin : Hid (WiAll s w (.returned (.tuple #[.agg #[.slice none 0 0], .int .i64 cd])) (w2.setCell ⟨w.heap.size, 0, none⟩ (.slice none 0 0))) := Or.inl ⟨by rw [HE.out]; exact hc, by rw [HE.out], e4⟩
    have He3 := hidd e3
    clear hcd hc e3 e4
    go_wp2_with fail
    refine bodyPost_ret (v := .tuple #[.agg #[.slice none 0 0], .int .i64 cd]) (by have q := He3.out; simp [results, Tryd.results5, go_sem, q]) rfl ?_
    exact HFin.out
end Go.Proofs.YtmnfioghhdgciaaDoor
