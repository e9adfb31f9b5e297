import Derived.Test.YtmnfioghhdgciaaDoorWildJ31
import Derived.Test.YtmnfioghhdgciaaDoorWildJ18
import Derived.WalkMore
import Derived.RangeFuncLeaves
import Derived.RangeFuncNested
import Derived.Test.YtmnfioghhdgciaaDoorWildJ00
namespace Go.Proofs.YtmnfioghhdgciaaDoor
open Go Go.RowKit
set_option linter.unusedVariables false
set_option linter.unusedSimpArgs false
set_option maxRecDepth 100000

/-! impl.table.dfa. -/
def DfPost (w : World) (bs : List Bool) (nxt : List (List Nat)) (ls : List Int) (e : Ending) (w' : World) : Prop :=
  ∃ v D, e = .returned (.agg #[v]) ∧ DfaM w' w.heap.size v D ∧ sysL.Least ls.length ls ((autR bs nxt).lang (ls.length + 1) 0) (D.map Prod.snd) ∧ Below w.heap.size w w' ∧ D.length ≤ 257 ∧ ∃ ad c, v = .slice ad D.length c
theorem arcsTo_le (T : Sys Nat) (m : Nat) (ls : List Int) (o : List Nat) (x k : Nat) : (arcsTo T m ls o x k).length ≤ k := by
  unfold arcsTo toldTo
  rw [List.length_map]
  exact Nat.le_trans (List.length_filter_le _ _) (by simp)
set_option maxHeartbeats 8000000 in
theorem dfa_any (tb gp cp gf cf g3 c3 n : Nat) (a0 a1 a2 a3 vrows : Value) (bs : List Bool) (cl : List Int) (parts : List (List Nat)) (nxt : List (List Nat)) (ls : List Int) (w : World)
    (hI : DfIn w tb gp cp gf cf g3 c3 a0 a1 a2 a3 vrows bs cl parts nxt ls n) (hOK : PartOK (autR bs nxt) (ls.length + 1) n (kapN cl) parts) (hSt : Stable (autR bs nxt) (ls.length + 1) n (kapN cl))
    (hcl : cl.length = n) (hbl : bs.length = n) (hcz : ∀ z ∈ cl, 0 ≤ z) (hpl : parts.length ≤ 257) (hS : ∀ q, q < n → (nxt.getD q []).length = ls.length + 1 ∧ ∀ a, a < ls.length + 1 → (nxt.getD q []).getD a 0 < n) (hm : ls.length ≤ 30) (h0 : 0 < n) (hn : n ≤ 1114112)
    (ha0 : HoldI w a0 ls) (ha1 : HoldI w a1 (nat2 (List.range ls.length))) :
    Calls Tryd.prog 37 #[.pointer (some ⟨tb, 0, none⟩)] w (DfPost w bs nxt ls) := by
  obtain ⟨is, his, hs0, hs1, hs2⟩ := info_parts Tryd.infoStD
  have HSh : Hid (Shut (autR bs nxt) (ls.length + 1) n) := fun q a hq ha => (hS q hq).2 a ha
  have HPa : Hid (Parts (autR bs nxt) (ls.length + 1) n (kapN cl)) := hSt.parts HSh.out hOK.coarse
  have HRe : Hid (∀ c, c < parts.length → repP parts c < n ∧ kapN cl (repP parts c) = c) := fun c hc => repP_mem hOK hc
  have HOK := hidd hOK
  have HDb : Hid (∀ c, c < parts.length → (deadB bs cl (runs (nxt.getD (repP parts c) [])) (repP parts c) = true ↔ (autR bs nxt).lang (ls.length + 1) (repP parts c) = emptyL)) := fun c hc => by
    obtain ⟨r1, r2⟩ := HRe.out c hc
    rw [deadB_iff hcz (hS _ r1).1]
    exact HPa.out.dead HSh.out r1
  have HNl := hidd (fun q (hq : q < n) => (hS q hq).1)
  have hK0 := hOK.lt 0 h0
  have HI := hidd hI
  obtain ⟨ad0, c0, rfl, hA0⟩ := ha0
  obtain ⟨ad1, c1, rfl, hA1⟩ := ha1
  rw [nat2_len, List.length_range] at *
  have HA0 : Hid (∀ k, k < ls.length → ∃ g off, ad0 = some ⟨g, off, none⟩ ∧ w.cell? ⟨g, off + k, none⟩ = some (.int .i64 (ls.getD k 0))) := fun k hk => by
    rcases hA0 with e | ⟨g, off, h1, _, h3⟩
    · rw [e] at hk; simp at hk
    · exact ⟨g, off, h1, h3 k hk⟩
  have HA1 : Hid (∀ k, k < ls.length → ∃ g off, ad1 = some ⟨g, off, none⟩ ∧ w.cell? ⟨g, off + k, none⟩ = some (.int .i64 (k : Int))) := fun k hk => by
    rcases hA1 with e | ⟨g, off, h1, _, h3⟩
    · have := congrArg List.length e
      rw [nat2_len, List.length_range] at this
      simp at this
      rw [this] at hk
      simp at hk
    · refine ⟨g, off, h1, ?_⟩
      rw [h3 k hk, nat2_at _ _ (by rw [List.length_range]; exact hk), List.getD_eq_getElem?_getD, List.getElem?_range hk]
      rfl
  have hb1 : Below w.heap.size w (w.alloc (.cells #[.slice none 0 0] 24)) := (Below.refl _ _).alloc (Nat.le_refl _) _
  have x7 : (w.alloc (.cells #[.slice none 0 0] 24)).cell? ⟨tb, 7, none⟩ = some (.slice (some ⟨gp, 0, none⟩) parts.length cp) := blkc (blko hI.box hb1) 7
  have HX := hidd (hI.idx _ hb1)
  have hr1 : (w.alloc (.cells #[.slice none 0 0] 24)).heap[w.heap.size]? = some (.cells #[.slice none 0 0] 24) := heap_alloc_new _ _
  have hz1 : (w.alloc (.cells #[.slice none 0 0] 24)).heap.size = w.heap.size + 1 := by simp
  clear hI hOK hSt hcz hS hA0 hA1
  go_enter Tryd.func37, Tryd.ntmps37
  go_wp2_with fail
  refine HX.out.mono ?_
  rintro e w1 ⟨z, rfl, hz, hbz⟩
  have hrz := blko hr1 hbz
  have hbw : Below w.heap.size w w1 := hb1.trans (hbz.mono hb1.size)
  have hsz1 := hbz.size
  rw [hz1] at hsz1
  have HIz := hidd hz
  have HHr := hidd hrz
  have HBw := hidd hbw
  obtain ⟨T, hT⟩ : ∃ T, sysC (autR bs nxt) (kapN cl) (repP parts) (fun c => decide (z = (c : Int))) = T := ⟨_, rfl⟩
  have HT := hidd hT
  have HTd : Hid (∀ c : Nat, T.dead c = decide (z = (c : Int))) := fun c => by rw [← hT]; rfl
  have HTo : Hid (∀ c k, T.gto c k = kapN cl ((autR bs nxt).nx (repP parts c) k)) := fun c k => by rw [← hT]; rfl
  have HTf : Hid (∀ c, T.fin c = bs.getD (repP parts c) false) := fun c => by rw [← hT]; rfl
  have HTl : Hid (∀ c k, c < parts.length → k ≤ ls.length → T.gto c k < parts.length) := fun c k hc hk => by
    rw [HTo.out]
    exact HOK.out.lt _ (HSh.out _ k (HRe.out c hc).1 (by omega))
  have HKs : Hid (∀ c k, c < parts.length → k ≤ ls.length → (ksP cl nxt (repP parts c)).getD k 0 = T.gto c k) := fun c k hc hk => by
    rw [HTo.out]
    have hl := HNl.out _ (HRe.out c hc).1
    unfold ksP
    show _ = kapN cl ((nxt.getD (repP parts c) []).getD k 0)
    rw [List.getD_eq_getElem?_getD, List.getElem?_map, List.getD_eq_getElem?_getD (l := nxt.getD (repP parts c) []), List.getElem?_eq_getElem (by omega)]
    rfl
  have HKl : Hid (∀ c, c < parts.length → (ksP cl nxt (repP parts c)).length = ls.length + 1) := fun c hc => by
    unfold ksP
    rw [List.length_map]
    exact HNl.out _ (HRe.out c hc).1
  clear hz hrz hbw hT hr1 x7 HX HNl hb1 hbz hz1
  obtain ⟨K, hK⟩ : ∃ K, kapN cl 0 = K := ⟨_, rfl⟩
  have HK := hidd hK
  rw [hK] at hK0
  clear hK
  have hz2 : (w1.alloc (.cells #[.int .i64 z] 3)).heap.size = w1.heap.size + 1 := by simp
  have hz3 : ((w1.alloc (.cells #[.int .i64 z] 3)).alloc (.cells #[.slice none 0 0] 24)).heap.size = w1.heap.size + 1 + 1 := by simp
  have hb2 : Below w1.heap.size w1 (w1.alloc (.cells #[.int .i64 z] 3)) := (Below.refl _ _).alloc (Nat.le_refl _) _
  have hb3 : Below (w1.alloc (.cells #[.int .i64 z] 3)).heap.size (w1.alloc (.cells #[.int .i64 z] 3)) (((w1.alloc (.cells #[.int .i64 z] 3)).alloc (.cells #[.slice none 0 0] 24)).alloc (.cells #[.map none, .slice none 0 0] 120)) := ((Below.refl _ _).alloc (Nat.le_refl _) _).alloc (by rw [hz2, hz3]; omega) _
  have hb4 : Below w1.heap.size w1 (((w1.alloc (.cells #[.int .i64 z] 3)).alloc (.cells #[.slice none 0 0] 24)).alloc (.cells #[.map none, .slice none 0 0] 120)) := hb2.trans (hb3.mono hb2.size)
  have hb5 : Below ((w1.alloc (.cells #[.int .i64 z] 3)).alloc (.cells #[.slice none 0 0] 24)).heap.size ((w1.alloc (.cells #[.int .i64 z] 3)).alloc (.cells #[.slice none 0 0] 24)) (((w1.alloc (.cells #[.int .i64 z] 3)).alloc (.cells #[.slice none 0 0] 24)).alloc (.cells #[.map none, .slice none 0 0] 120)) := (Below.refl _ _).alloc (Nat.le_refl _) _
  have hbw4 : Below w.heap.size w (((w1.alloc (.cells #[.int .i64 z] 3)).alloc (.cells #[.slice none 0 0] 24)).alloc (.cells #[.map none, .slice none 0 0] 120)) := HBw.out.trans (hb4.mono HBw.out.size)
  have HD0 : Hid (Dc w (((w1.alloc (.cells #[.int .i64 z] 3)).alloc (.cells #[.slice none 0 0] 24)).alloc (.cells #[.map none, .slice none 0 0] 120)) w1.heap.size (w1.heap.size + 1) (w1.heap.size + 1 + 1) z (.slice none 0 0) (.map none) (.slice none 0 0) []) := by
    refine ⟨hbw4, blko HHr.out hb4, blko (heap_alloc_new _ _) hb3, ?_, ?_, by simp [Value.ownBlock], by omega, by omega⟩
    · have := blko (heap_alloc_new (w1.alloc (.cells #[.int .i64 z] 3)) (.cells #[.slice none 0 0] 24)) hb5
      rw [hz2] at this
      exact this
    · have := setAt_new (K := keyI) ((w1.alloc (.cells #[.int .i64 z] 3)).alloc (.cells #[.slice none 0 0] 24)) w.heap.size
      rw [hz3] at this
      exact this
  have x6 : ((((w1.alloc (.cells #[.int .i64 z] 3)).alloc (.cells #[.slice none 0 0] 24)).alloc (.cells #[.map none, .slice none 0 0] 120))).cell? ⟨tb, 6, none⟩ = some (.slice (some ⟨g3, 0, none⟩) cl.length c3) := blkc (blko HI.out.box hbw4) 6
  have x0 : ((((w1.alloc (.cells #[.int .i64 z] 3)).alloc (.cells #[.slice none 0 0] 24)).alloc (.cells #[.map none, .slice none 0 0] 120))).cell? ⟨g3, 0, none⟩ = some (.int .i64 (K : Int)) := by
    rw [hbw4.cell (p := ⟨g3, 0, none⟩) (cell_lt HI.out.cls0), HI.out.cls0, HK.out]
  have hclz : (0 : Int) < (cl.length : Int) := by omega
  go_upto_region 4 with fail
  obtain ⟨kb, hkb⟩ : ∃ kb, w1.heap.size = kb := ⟨_, rfl⟩
  rw [hkb] at HD0
  simp only [hkb]
  clear hb2 hb3 hb4 hb5 hz2 hz3 hbw4 HHr HBw hkb hsz1
  generalize (((w1.alloc (.cells #[.int .i64 z] 3)).alloc (.cells #[.slice none 0 0] 24)).alloc (.cells #[.map none, .slice none 0 0] 120)) = W4 at *
  go_wp2_with fail
  refine (placeI_any w.heap.size (kb + 1 + 1) _ _ _ (K : Int) W4 ⟨by omega, by omega⟩ (by simp [nat2]) HD0.out.below.size HD0.out.set).mono ?_
  rintro e w2 ⟨rfl, vm0, vmem0, hs, hbut, hat, _⟩
  have HD1 : Hid (Dc w w2 kb (kb + 1) (kb + 1 + 1) z (.slice none 0 0) vm0 vmem0 [K] ∧ DfaM w2 w.heap.size (.slice none 0 0) []) := ⟨HD0.out.place (by simpa [nat2, meet] using hs) hbut hat, DfaM.nil _ _⟩
  clear hs hbut hat HD0 x6 x0 hclz
  go_wp2_with fail
  go_loopw [7] (fun iv wx => ∃ (i : Nat) (o : List Nat) (l : List MSt) (v vm vmem : Value), iv = .int .i64 (i : Int) ∧ i ≤ o.length ∧ Dc w wx kb (kb + 1) (kb + 1 + 1) z v vm vmem o ∧ DfaM wx w.heap.size v l ∧ bfs (T.nexts ls.length) i 0 [K] = o ∧ (∀ x ∈ o, x < parts.length) ∧ o.Nodup ∧ l.map Prod.snd = (o.take i).map (T.state ls.length ls o) ∧ (∀ x ∈ o.take i, ∀ a, a ≤ ls.length → T.gto x a ∈ o ∨ T.dead (T.gto x a) = true)) (fun iv _ => parts.length + 1 - (intOf iv).toNat)
  case atStart => exact ⟨0, [K], [], _, _, _, rfl, by simp, HD1.out.1, HD1.out.2, rfl, by simpa using hK0, by simp, by simp, by simp⟩
  case round =>
    clear HD1
    obtain ⟨i, o, l, v, vm, vmem, rfl, hio, q1, q2, q3, q4, q5, q6, q7⟩ := hrel
    have HQ1 := hidd q1
    have HQ2 := hidd q2
    have HQ3 := hidd q3
    have HQ4 := hidd q4
    have HQ5 := hidd q5
    have HQ6 := hidd q6
    have HQ7 := hidd q7
    have hol : o.length ≤ parts.length := nat_nodup_le parts.length o q5 q4
    have hll : l.length = i := by
      have := congrArg List.length q6
      rw [List.length_map, List.length_map, List.length_take] at this
      omega
    have hrow := q1.set.row
    rw [rowI, nat2_len] at hrow
    obtain ⟨adm, cm, rfl⟩ := own_sl hrow
    have m1 : wr.cell? ⟨kb + 1 + 1, 1, none⟩ = some (.slice adm o.length cm) := blkc q1.set.box 1
    clear q1 q2 q3 q4 q5 q6 q7
    by_cases hlo : i < o.length
    · have hloz : (i : Int) < (o.length : Int) := by omega
      obtain ⟨x, hx⟩ : ∃ x, o[i]? = some x := ⟨o[i], List.getElem?_eq_getElem hlo⟩
      have hxp := HQ4.out x (List.mem_of_getElem? hx)
      obtain ⟨gm, cm', hgm⟩ := own_posk hrow (by omega)
      simp only [Value.slice.injEq] at hgm
      obtain ⟨rfl, -, rfl⟩ := hgm
      have m2 : wr.cell? ⟨gm, i, none⟩ = some (.int .i64 (x : Int)) := own_cellk hrow (by
        unfold zI nat2
        rw [List.getElem?_map, List.getElem?_map, hx]
        rfl)
      obtain ⟨gv, ov, nv, cv, p1, p2, p3⟩ := HI.out.part x hxp
      have hbx := HQ1.out.below
      have p1' := (hbx.cell (p := ⟨gp, x, none⟩) (cell_lt p1)).trans p1
      have p3' := (hbx.cell (p := ⟨gv, ov, none⟩) (cell_lt p3)).trans p3
      have hPn := (HRe.out x hxp).1
      have f1 := HI.out.fin _ hPn
      have f1' := (hbx.cell (cell_lt f1)).trans f1
      rw [← HTf.out x] at f1'
      have x7 : wr.cell? ⟨tb, 7, none⟩ = some (.slice (some ⟨gp, 0, none⟩) parts.length cp) := blkc (blko HI.out.box hbx) 7
      have x5 : wr.cell? ⟨tb, 5, none⟩ = some (.slice (some ⟨gf, 0, none⟩) bs.length cf) := blkc (blko HI.out.box hbx) 5
      obtain ⟨P, hP⟩ : ∃ P, repP parts x = P := ⟨_, rfl⟩
      rw [hP] at p3' hPn f1'
      have HP := hidd hP
      obtain ⟨fb, hfb⟩ : ∃ fb, T.fin x = fb := ⟨_, rfl⟩
      rw [hfb] at f1'
      have HFb := hidd hfb
      have HX := hidd hx
      have hxpz : (x : Int) < (parts.length : Int) := by omega
      have hnvz : (0 : Int) < (nv : Int) := by omega
      have hPbz : (P : Int) < (bs.length : Int) := by omega
      clear hP hfb hx p1 p3 f1 hbx hrow
      go_upto_region 9 with fail
      go_quiet (fail)
      have HQq := hidd (HQ1.out.keep (below_drewN (Below.refl _ _) nq))
      have HQd := hidd (HQ2.out.below (below_drewN (Below.refl _ _) nq))
      have x5q : (wr.drewN nq).cell? ⟨tb, 5, none⟩ = some (.slice (some ⟨gf, 0, none⟩) bs.length cf) := by simpa using x5
      have f1q : (wr.drewN nq).cell? ⟨gf, P, none⟩ = some (.bool fb) := by simpa using f1'
      clear m1 m2 p1' p2 p3' x7 x5 f1' HQ1 HQ2 hnvz
      generalize wr.drewN nq = W5 at *
      go_upto_region 11 with fail
      have HD7 := hidd (HQq.out.start HQd.out fb 0)
      obtain ⟨sb, hsb⟩ : ∃ sb, W5.heap.size = sb := ⟨_, rfl⟩
      rw [hsb] at HD7
      simp only [hsb]
      clear hsb x5q f1q HQq HQd
      generalize W5.alloc (.cells #[.bool fb, .slice none 0 0, .int .i64 0] 86) = W6 at *
      go_wp2_with fail
      refine (HI.out.lead W6 HD7.out.core.below P hPn).mono ?_
      rintro e w3 ⟨vl, rfl, hl3, hb3⟩
      have hkl := HKl.out x hxp
      rw [HP.out] at hkl
      have HKL := hidd hkl
      have HD8 := hidd (HD7.out.lead hb3 (zs' := nat2 (ksP cl nxt P)) (by rw [nat2_len, hkl]; exact hl3))
      clear HD7 hl3 hb3 hkl
      go_wp2_with fail
      refine (HI.out.most w3 HD8.out.core.below P hPn vl (HoldI.own HD8.out.ld)).mono ?_
      rintro e w4 ⟨rfl, hb4⟩
      have HD9 := hidd (HD8.out.keep hb4)
      have hO := HKs.out x ls.length hxp (Nat.le_refl _)
      rw [HP.out] at hO
      rw [hO]
      have x0 : w4.cell? ⟨tb, 0, none⟩ = some (.slice ad0 ls.length c0) := blkc (blko HI.out.box HD9.out.core.below) 0
      clear HD8 hb4 hO
      have hld := HD9.out.ld
      rw [nat2_len, HKL.out] at hld
      obtain ⟨gl, cgl, rfl⟩ := own_posk hld (by omega)
      clear hld
      have HOk := hidd (o7_ok HQ4.out HQ5.out (fun k hk => HTl.out x k hxp hk))
      go_wp2_with fail
      go_loopw [70] (fun kv wx => ∃ (k : Nat) (vm vmem va : Value), k ≤ ls.length ∧ kv = .int .i64 (k : Int) ∧ D7 w wx kb (kb + 1) (kb + 1 + 1) sb z v l vm vmem (o7 T ls.length x o k) (.slice (some ⟨gl, 0, none⟩) (ls.length + 1) cgl) (nat2 (ksP cl nxt P)) va fb (arcsTo T ls.length ls (o7 T ls.length x o k) x k) 0) (fun kv _ => ls.length - (intOf kv).toNat)
      case atStart => exact ⟨0, _, _, _, Nat.zero_le _, rfl, by rw [o7_zero]; exact HD9.out⟩
      case round =>
        clear HD9 x0
        obtain ⟨k, vm', vmem', va, hkm, rfl, hd⟩ := hrel
        have HD := hidd hd
        clear hd
        by_cases hk : k < ls.length
        · have hkz : (k : Int) < (ls.length : Int) := by omega
          have hkz1 : (k : Int) < (ls.length : Int) + 1 := by omega
          obtain ⟨g0, of0, rfl, l0⟩ := HA0.out k hk
          obtain ⟨gy, oy, rfl, y0⟩ := HA1.out k hk
          have hbw := HD.out.core.below
          have l1 := (hbw.cell (p := ⟨g0, of0 + k, none⟩) (cell_lt l0)).trans l0
          have y1 := (hbw.cell (p := ⟨gy, oy + k, none⟩) (cell_lt y0)).trans y0
          have x1 : wr.cell? ⟨tb, 1, none⟩ = some (.slice (some ⟨gy, oy, none⟩) ls.length c1) := blkc (blko HI.out.box hbw) 1
          have hld := HD.out.ld
          rw [nat2_len, HKL.out] at hld
          have v1 : wr.cell? ⟨gl, k, none⟩ = some (.int .i64 ((T.gto x k : Nat) : Int)) := own_cellk hld (by
            have := HKs.out x k hxp (by omega)
            rw [HP.out] at this
            unfold zI nat2
            rw [List.getElem?_map, List.getElem?_map, ← this, List.getD_eq_getElem?_getD, List.getElem?_eq_getElem (by rw [HKL.out]; omega)]
            rfl)
          clear l0 y0 hbw hld
          by_cases he : T.gto x k = T.gto x ls.length
          · have hez : ((T.gto x k : Nat) : Int) = ((T.gto x ls.length : Nat) : Int) := by rw [he]
            have HE := hidd (o7_same (o := o) hk he ls)
            go_wp2_with fail
            go_roundw
            case rel => exact ⟨k + 1, _, _, _, by omega, by go_num, by rw [HE.out.2, HE.out.1]; exact HD.out⟩
            case measure => simp [intOf]; omega
          · have hez : ¬ ((T.gto x k : Nat) : Int) = ((T.gto x ls.length : Nat) : Int) := by omega
            have HE := hidd (o7_arc (o := o) hk he ls)
            go_upto_region 18 with fail
            have hC257 : T.gto x k < parts.length := HTl.out x k hxp (by omega)
            have hol7 : (o7 T ls.length x o k).length ≤ parts.length := nat_nodup_le parts.length _ (HOk.out k).2 (HOk.out k).1
            have har := arcsTo_le T ls.length ls (o7 T ls.length x o k) x k
            refine wp_region_held (S := fun _ => True) (by kernel_rfl) ?_
            have hbd : Below wr.heap.size wr ({ heap := wr.heap, tape := wr.tape, drawn := wr.drawn + 1, os := wr.os, output := wr.output } : World) := (Below.refl _ _).drew
            generalize ({ heap := wr.heap, tape := wr.tape, drawn := wr.drawn + 1, os := wr.os, output := wr.output } : World) = Wd at *
            have hSd : (fun _ => True : World → Prop) Wd := trivial
            have hDd := HD.out.keep hbd
            have hls : Wd.cell? ⟨sb, 1, none⟩ = some va := blkc hDd.cur.box 1
            have hNum := numberOf_any T w.heap.size kb (kb + 1 + 1) (T.gto x k) z vm' vmem' (o7 T ls.length x o k) Wd (HTd.out _) (by omega) hDd.core.kbox hDd.core.set (by omega) hDd.core.below.size
            try simp only [Act.put, List.getElem_toArray, List.getElem_cons_succ, List.getElem_cons_zero, List.setIfInBounds_toArray, List.set_cons_zero, List.set_cons_succ]
            refine tkX 0 (hS := hSd) (h := ?_)
            try simp only [Act.put, List.getElem_toArray, List.getElem_cons_succ, List.getElem_cons_zero, List.setIfInBounds_toArray, List.set_cons_zero, List.set_cons_succ]
            refine tkX 2 (hS := hSd) (h := ?_)
            try simp only [Act.put, List.getElem_toArray, List.getElem_cons_succ, List.getElem_cons_zero, List.setIfInBounds_toArray, List.set_cons_zero, List.set_cons_succ]
            refine tkX 3 (hS := hSd) (h := ?_)
            try simp only [Act.put, List.getElem_toArray, List.getElem_cons_succ, List.getElem_cons_zero, List.setIfInBounds_toArray, List.set_cons_zero, List.set_cons_succ]
            refine tkX 4 (hS := hSd) (h := ?_)
            try simp only [Act.put, List.getElem_toArray, List.getElem_cons_succ, List.getElem_cons_zero, List.setIfInBounds_toArray, List.set_cons_zero, List.set_cons_succ]
            refine wpAnyH_two 1 5 (by kernel_rfl) ?ha1 ?hb1
            case' ha1 =>
              refine wpOp_val _ _ rfl (by kernel_rfl) (exec_loadAr _ _ _ _ rfl sb 1 va (by kernel_rfl) hls) ?_
              refine ⟨trivial, ?_⟩
              try simp only [Act.put, List.getElem_toArray, List.getElem_cons_succ, List.getElem_cons_zero, List.setIfInBounds_toArray, List.set_cons_zero, List.set_cons_succ]
              refine wpAnyH_one 5 (by kernel_rfl) ?_
              refine wpOp_call 59 #[.int .i64 ((T.gto x k : Nat) : Int), .pointer (some ⟨kb, 0, none⟩), .pointer (some ⟨kb + 1 + 1, 0, none⟩)] rfl (by kernel_rfl) (exec_callC _ _ _ _ _ _ _ rfl _ _ _ (by kernel_rfl) (by kernel_rfl) (Tryd.call59 _ _)) ?_
              refine hNum.mono ?_
              rintro e w5 ⟨rfl, vm5, vmem5, hs5, hbt5, hat5⟩
              have hD5 := hDd.place hs5 hbt5 hat5
              have hS5 : (fun _ => True : World → Prop) w5 := trivial
              refine ⟨trivial, ?_⟩
              try simp only [Act.put, List.getElem_toArray, List.getElem_cons_succ, List.getElem_cons_zero, List.setIfInBounds_toArray, List.set_cons_zero, List.set_cons_succ]
              refine tkX 6 (v := .agg #[.int .i64 (ls.getD k 0), .int .i64 (T.num (meetD T (o7 T ls.length x o k) (T.gto x k)) (T.gto x k))]) (hS := hS5) (h := ?_)
              try simp only [Act.put, List.getElem_toArray, List.getElem_cons_succ, List.getElem_cons_zero, List.setIfInBounds_toArray, List.set_cons_zero, List.set_cons_succ]
              refine wpAnyH_one 7 (by kernel_rfl) ?_
              refine wpOp_val _ _ rfl (by kernel_rfl) (exec_boxAr _ _ _ _ rfl (ls.getD k 0) (T.num (meetD T (o7 T ls.length x o k) (T.gto x k)) (T.gto x k)) (by kernel_rfl)) ?_
              refine ⟨trivial, ?_⟩
            case' hb1 =>
              refine wpOp_call 59 #[.int .i64 ((T.gto x k : Nat) : Int), .pointer (some ⟨kb, 0, none⟩), .pointer (some ⟨kb + 1 + 1, 0, none⟩)] rfl (by kernel_rfl) (exec_callC _ _ _ _ _ _ _ rfl _ _ _ (by kernel_rfl) (by kernel_rfl) (Tryd.call59 _ _)) ?_
              refine hNum.mono ?_
              rintro e w5 ⟨rfl, vm5, vmem5, hs5, hbt5, hat5⟩
              have hD5 := hDd.place hs5 hbt5 hat5
              have hS5 : (fun _ => True : World → Prop) w5 := trivial
              refine ⟨trivial, ?_⟩
              try simp only [Act.put, List.getElem_toArray, List.getElem_cons_succ, List.getElem_cons_zero, List.setIfInBounds_toArray, List.set_cons_zero, List.set_cons_succ]
              refine tkX 6 (v := .agg #[.int .i64 (ls.getD k 0), .int .i64 (T.num (meetD T (o7 T ls.length x o k) (T.gto x k)) (T.gto x k))]) (hS := hS5) (h := ?_)
              try simp only [Act.put, List.getElem_toArray, List.getElem_cons_succ, List.getElem_cons_zero, List.setIfInBounds_toArray, List.set_cons_zero, List.set_cons_succ]
              refine wpAnyH_two 1 7 (by kernel_rfl) ?hc1 ?hd1
              case' hc1 =>
                refine wpOp_val _ _ rfl (by kernel_rfl) (exec_loadAr _ _ _ _ rfl sb 1 va (by kernel_rfl) (blkc hD5.cur.box 1)) ?_
                refine ⟨trivial, ?_⟩
                try simp only [Act.put, List.getElem_toArray, List.getElem_cons_succ, List.getElem_cons_zero, List.setIfInBounds_toArray, List.set_cons_zero, List.set_cons_succ]
                refine wpAnyH_one 7 (by kernel_rfl) ?_
                refine wpOp_val _ _ rfl (by kernel_rfl) (exec_boxAr _ _ _ _ rfl (ls.getD k 0) (T.num (meetD T (o7 T ls.length x o k) (T.gto x k)) (T.gto x k)) (by kernel_rfl)) ?_
                refine ⟨trivial, ?_⟩
              case' hd1 =>
                refine wpOp_val _ _ rfl (by kernel_rfl) (exec_boxAr _ _ _ _ rfl (ls.getD k 0) (T.num (meetD T (o7 T ls.length x o k) (T.gto x k)) (T.gto x k)) (by kernel_rfl)) ?_
                refine ⟨trivial, ?_⟩
                try simp only [Act.put, List.getElem_toArray, List.getElem_cons_succ, List.getElem_cons_zero, List.setIfInBounds_toArray, List.set_cons_zero, List.set_cons_succ]
                refine wpAnyH_one 1 (by kernel_rfl) ?_
                refine wpOp_val _ _ rfl (by kernel_rfl) (exec_loadAr _ _ _ _ rfl sb 1 va (by kernel_rfl) (blkc (blko hD5.cur.box ((Below.refl _ _).alloc (Nat.le_refl _) _)) 1)) ?_
                refine ⟨trivial, ?_⟩
            all_goals
              try simp only [Act.put, List.getElem_toArray, List.getElem_cons_succ, List.getElem_cons_zero, List.setIfInBounds_toArray, List.set_cons_zero, List.set_cons_succ]
              refine wpAnyH_one 8 (by kernel_rfl) ?_
              refine wpOp_pushAr rfl (by kernel_rfl) rfl _ _ rfl w.heap.size va _ _ (by kernel_rfl) hD5.cur.arcs (ls.getD k 0) (T.num (meetD T (o7 T ls.length x o k) (T.gto x k)) (T.gto x k)) w5.heap.size rfl (by kernel_rfl) (by omega) hD5.core.below.size ?_
              intro g4 c4 W7 ho4 hbt4 hat4
              have hA := hD5.arc (a := (ls.getD k 0, (T.num (meetD T (o7 T ls.length x o k) (T.gto x k)) (T.gto x k)))) hbt4 ho4 hat4
              have hS7 : (fun _ => True : World → Prop) W7 := trivial
              refine ⟨trivial, ?_⟩
              try simp only [Act.put, List.getElem_toArray, List.getElem_cons_succ, List.getElem_cons_zero, List.setIfInBounds_toArray, List.set_cons_zero, List.set_cons_succ]
              refine tkX 9 (hS := hS7) (h := ?_)
              try simp only [Act.put, List.getElem_toArray, List.getElem_cons_succ, List.getElem_cons_zero, List.setIfInBounds_toArray, List.set_cons_zero, List.set_cons_succ]
              refine wpAnyH_one 10 (by kernel_rfl) ?_
              refine wpOp_skip _ rfl (by kernel_rfl) (exec_storeAr _ _ _ _ _ rfl sb 1 (some ⟨g4, 0, none⟩) ((arcsTo T ls.length ls (o7 T ls.length x o k) x k).length + 1) c4 va (by kernel_rfl) (by kernel_rfl) (blkc hA.2 1) (blkf hA.2 1)) ?_
              refine ⟨trivial, ?_⟩
              try simp only [Act.put, List.getElem_toArray, List.getElem_cons_succ, List.getElem_cons_zero, List.setIfInBounds_toArray, List.set_cons_zero, List.set_cons_succ]
              refine wpAnyH_done (by kernel_rfl) ?_ _
              have HDn : Hid (D7 w (W7.setCell ⟨sb, 1, none⟩ (.slice (some ⟨g4, 0, none⟩) ((arcsTo T ls.length ls (o7 T ls.length x o k) x k).length + 1) c4)) kb (kb + 1) (kb + 1 + 1) sb z v l vm5 vmem5 (o7 T ls.length x o (k + 1)) (.slice (some ⟨gl, 0, none⟩) (ls.length + 1) cgl) (nat2 (ksP cl nxt P)) (.slice (some ⟨g4, 0, none⟩) ((arcsTo T ls.length ls (o7 T ls.length x o k) x k).length + 1) c4) fb (arcsTo T ls.length ls (o7 T ls.length x o (k + 1)) x (k + 1)) 0) := by
                show D7 _ _ _ _ _ _ _ _ _ _ _ _ _ _ _ _ _ _
                rw [HE.out.2, HE.out.1]
                exact hA.1
              clear ho4 hbt4 hat4 hA hS7 hS5 hD5 hs5 hbt5 hat5 hNum hDd hSd hbd hls HD HE l1 y1 x1 v1
              go_wp2_with fail
              go_roundw
              case rel => exact ⟨k + 1, vm5, vmem5, _, by omega, by go_num, HDn.out⟩
              case measure => simp [intOf]; omega
        · have hkz : ¬ (k : Int) < (ls.length : Int) := by omega
          obtain rfl : k = ls.length := by omega
          have hC257 : T.gto x ls.length < parts.length := HTl.out x ls.length hxp (Nat.le_refl _)
          have hol7 : (o7 T ls.length x o ls.length).length ≤ parts.length := nat_nodup_le parts.length _ (HOk.out _).2 (HOk.out _).1
          have har := arcsTo_le T ls.length ls (o7 T ls.length x o ls.length) x ls.length
          have HNum := hidd (numberOf_any T w.heap.size kb (kb + 1 + 1) (T.gto x ls.length) z vm' vmem' (o7 T ls.length x o ls.length) wr (HTd.out _) (by omega) HD.out.core.kbox HD.out.core.set (by omega) HD.out.core.below.size)
          go_wp2_with fail
          refine HNum.out.mono ?_
          rintro e w5 ⟨rfl, vm5, vmem5, hs5, hbt5, hat5⟩
          have hD5 := HD.out.place hs5 hbt5 hat5
          have HD5 := hidd hD5
          have s2 : w5.cell? ⟨sb, 2, none⟩ = some (.int .i64 0) := blkc hD5.cur.box 2
          have f2 := blkf hD5.cur.box 2
          obtain ⟨e1, e2⟩ := o7_els (T := T) (m := ls.length) (x := x) (o := o) ls
          rw [← e1] at HD5
          rw [← e2] at HD5
          rw [← e1]
          have HD6 := hidd (HD5.out.els (T.num (o7 T ls.length x o (ls.length + 1)) (T.gto x ls.length)))
          obtain ⟨m1, m2, m3, m4⟩ := told_more (T := T) (ls := ls) HX.out HQ6.out HQ7.out
          have HM1 := hidd m1
          have HM2 := hidd m2
          have HM4 := hidd m4
          have HBf : Hid (bfs (T.nexts ls.length) (i + 1) 0 [K] = (o7 T ls.length x o (ls.length + 1))) := by show _ = _; rw [bfs_step HQ3.out HX.out, o7_last]
          have HSt : Hid (T.state ls.length ls (o7 T ls.length x o (ls.length + 1)) x = (fb, arcsTo T ls.length ls (o7 T ls.length x o (ls.length + 1)) x ls.length, T.num (o7 T ls.length x o (ls.length + 1)) (T.gto x ls.length))) := by
            show _ = _
            rw [state_of, HFb.out]
          have hl40 : (l.length + 1) * 40 ≤ 140737488355328 := by omega
          clear hs5 hbt5 hat5 hD5 HD5 HNum e1 e2 m1 m2 m3 m4 HD hll
          go_upto_region 21 with fail
          generalize hNe : T.num (o7 T ls.length x o (ls.length + 1)) (T.gto x ls.length) = Ne at *
          generalize w5.setCell ⟨sb, 2, none⟩ (.int .i64 Ne) = W2 at *
          clear s2 f2 hNe
          have dc : W2.cell? ⟨kb + 1, 0, none⟩ = some v := blkc HD6.out.core.dbox 0
          have s0 : W2.cell? ⟨sb, 0, none⟩ = some (.bool fb) := blkc HD6.out.cur.box 0
          have s1 : W2.cell? ⟨sb, 1, none⟩ = some va := blkc HD6.out.cur.box 1
          have s2 : W2.cell? ⟨sb, 2, none⟩ = some (.int .i64 Ne) := blkc HD6.out.cur.box 2
          have HRo3 := hidd HD6.out.cur.dfa.row
          have hba := HD6.out.core.below.size
          have HOc : Hid (∀ y ∈ (#[.bool fb, va, .int .i64 Ne] : Array Value).toList, y.oneCell' = true) := by
            show ∀ _, _
            intro y hy
            have h2 := HD6.out.cur.arcs.2
            have hv : (va : Value).oneCell' = true := by
              rcases h2 with ⟨h3, _⟩ | ⟨_, _, _, h3, _⟩
              · rw [h3]; rfl
              · rw [h3]; rfl
            simp at hy
            rcases hy with rfl | rfl | rfl
            · rfl
            · exact hv
            · rfl
          go_wp2_with (at_builtin; refine wp_pushk rfl _ _ 22 86 rfl is (.agg #[.bool false, .slice none 0 0, .int .i64 0]) 3 40 Tryd.underlying22 his hs0 hs1 hs2 rfl (by decide) w.heap.size v _ _ rfl HRo3.out #[.bool fb, va, .int .i64 Ne] rfl HOc.out rfl (by omega) (by decide) hba ?_)
          intro v' W3 hown3 hbut3 hat3 hne3
          rcases hown3.2 with ⟨e9, _⟩ | ⟨g7, c7, cur7, rfl, _⟩
          · exact absurd e9 hne3
          obtain ⟨hL6, hd3⟩ := HD6.out.done hbut3 hown3
          have HL6 := hidd hL6
          have dc3 : W3.cell? ⟨kb + 1, 0, none⟩ = some v := blkc hd3 0
          have f3 := blkf hd3 0
          clear hL6 hd3 hown3 hbut3 hat3 hne3 dc s0 s1 s2 HRo3 HOc HD6
          go_wp2_with fail
          go_roundw
          case rel => exact ⟨i + 1, (o7 T ls.length x o (ls.length + 1)), _, _, vm5, vmem5, by go_num, HM4.out, HL6.out.1, HL6.out.2, HBf.out, (HOk.out _).1, (HOk.out _).2, by rw [List.map_append, List.map_singleton]; rw [← HM1.out]; congr 1; rw [← HSt.out], HM2.out⟩
          case measure => simp [intOf]; omega
    · have hloz : ¬ (i : Int) < (o.length : Int) := by omega
      obtain rfl : i = o.length := by omega
      have hKo : K ∈ o := by
        obtain ⟨r, hr⟩ := bfs_pre (T.nexts ls.length) o.length 0 [K]
        rw [← HQ3.out, hr]
        simp
      have hop := List.length_pos_of_mem hKo
      have HLs : Hid (sysL.Least ls.length ls ((autR bs nxt).lang (ls.length + 1) 0) (l.map Prod.snd)) := by
        show Sys.Least _ _ _ _ _
        have hTl : T.Least ls.length ls K (l.map Prod.snd) := ⟨o, ⟨o.length, HQ3.out, Nat.le_refl _⟩, by rw [HQ6.out, List.take_length]⟩
        rw [← HT.out, ← HK.out] at hTl
        exact Parts.least HSh.out HPa.out h0 (fun q hq => HRe.out _ (HOK.out.lt q hq)) (dead_lang HSh.out HOK.out HPa.out HIz.out HDb.out) hTl
      rcases HQ2.out.row.2 with ⟨_, h1⟩ | ⟨g7, c7, cur7, rfl, _⟩
      · omega
      have dc : wr.cell? ⟨kb + 1, 0, none⟩ = some (.slice (some ⟨g7, 0, none⟩) l.length c7) := blkc HQ1.out.dbox 0
      have rc : wr.cell? ⟨w.heap.size, 0, none⟩ = some (.slice none 0 0) := blkc HQ1.out.res 0
      have fc := blkf HQ1.out.res 0
      have rc2 : (wr.setCell ⟨w.heap.size, 0, none⟩ (.slice (some ⟨g7, 0, none⟩) l.length c7)).cell? ⟨w.heap.size, 0, none⟩ = some (.slice (some ⟨g7, 0, none⟩) l.length c7) := by
        have := blk_setk HQ1.out.res 0 (.slice (some ⟨g7, 0, none⟩) l.length c7)
        rw [blkc this 0]
        simp
      have Rc2 := hidd rc2
      clear rc2
      have HFin : Hid (DfaM (wr.setCell ⟨w.heap.size, 0, none⟩ (.slice (some ⟨g7, 0, none⟩) l.length c7)) w.heap.size (.slice (some ⟨g7, 0, none⟩) l.length c7) l ∧ Below w.heap.size w (wr.setCell ⟨w.heap.size, 0, none⟩ (.slice (some ⟨g7, 0, none⟩) l.length c7))) := by
        have hr := HQ1.out.res
        refine ⟨HQ2.out.congr fun b cs t ht _ hh => ?_, HQ1.out.below.trans (((But.refl (fun b => b = w.heap.size) wr).set w.heap.size 0 _ rfl).below HQ1.out.below.size (fun j hj e => by omega))⟩
        rw [heap_set_other wr w.heap.size 0 _ b (by
          rintro rfl
          rw [hr] at hh
          simp only [Option.some.injEq, Obj.cells.injEq] at hh
          rcases ht with rfl | rfl
          · exact absurd hh.2.1 (by decide)
          · exact absurd hh.2.1 (by decide))]
        exact hh
      have hl4 : l.length ≤ 257 := by omega
      have Hl4 := hidd hl4
      clear hl4 hop hKo
      generalize hLl : l.length = Ll at *
      have HLl := hidd hLl
      clear hLl
      go_upto_region 22 with fail
      refine wp_region_list ?_
      refine wpL_loadDfa rfl _ rfl (kb + 1) (some ⟨g7, 0, none⟩) Ll c7 (by kernel_rfl) dc ?_
      refine wpL_storeDfa rfl _ _ rfl w.heap.size (some ⟨g7, 0, none⟩) Ll c7 (.slice none 0 0) (by kernel_rfl) (by kernel_rfl) rc fc ?_
      refine wpList_nil ?_
      unfold Exit.then
      dsimp only
      apply_assumption
      refine wp_ret ?_
      try simp only [Act.put, List.getElem_toArray, List.getElem_cons_succ, List.getElem_cons_zero, List.setIfInBounds_toArray, List.set_cons_zero, List.set_cons_succ]
      refine bodyPost_ret (v := .agg #[.slice (some ⟨g7, 0, none⟩) Ll c7]) (by have rc3 := Rc2.out; simp [results, Tryd.results37, go_sem, rc3]) rfl ?_
      exact ⟨_, l, rfl, HFin.out.1, HLs.out, HFin.out.2, by rw [HLl.out]; exact Hl4.out, _, c7, by rw [HLl.out]⟩
end Go.Proofs.YtmnfioghhdgciaaDoor

namespace Go.Proofs.YtmnfioghhdgciaaDoor
open Go Go.RowKit
set_option linter.unusedVariables false

/-- Marks among the deferred calls of an activation: of each loop over an iterator that was left. -/
def mark (D : Nat) : Deferred := { target := .collected D, args := #[] }
structure Marks (w : World) (B : Nat) (Ds : List Nat) : Prop where
  nodup : Ds.Nodup
  at_ : ∀ D ∈ Ds, B ≤ D ∧ w.heap[D]? = some (.deferred (some []))
/-- Cells that stay, but for those that a call has laid. -/
def KeepD (w w' : World) : Prop := ∀ D : Nat, w.heap[D]? = some (.deferred (some [])) → w'.heap[D]? = some (.deferred (some []))
theorem Marks.keep {w w' : World} {B : Nat} {Ds : List Nat} (h : Marks w B Ds) (hk : KeepD w w') : Marks w' B Ds := ⟨h.nodup, fun D hD => ⟨(h.at_ D hD).1, hk D (h.at_ D hD).2⟩⟩
theorem Marks.push {w : World} {B D : Nat} {Ds : List Nat} (h : Marks w B Ds) (hB : B ≤ D) (hD : w.heap[D]? = some (.deferred (some []))) (hn : D ∉ Ds) : Marks w B (D :: Ds) :=
  ⟨List.nodup_cons.2 ⟨hn, h.nodup⟩, fun x hx => by
    rcases List.mem_cons.1 hx with rfl | hx
    · exact ⟨hB, hD⟩
    · exact h.at_ x hx⟩
theorem Marks.lt {w : World} {B : Nat} {Ds : List Nat} (h : Marks w B Ds) {D : Nat} (hD : D ∈ Ds) : D < w.heap.size := (Array.getElem?_eq_some_iff.1 (h.at_ D hD).2).1
/-- All but marks stays. -/
structure AllBut (w w' : World) : Prop where
  os : w'.os = w.os
  tape : w'.tape = w.tape
  output : w'.output = w.output
  size : w'.heap.size = w.heap.size
  block : ∀ b : Nat, w.heap[b]? ≠ some (.deferred (some [])) → w'.heap[b]? = w.heap[b]?
theorem AllBut.refl (w : World) : AllBut w w := ⟨rfl, rfl, rfl, rfl, fun _ _ => rfl⟩
theorem leaves_marks {F : Fence} {n : Nat} {P : Program} {fn : Func} {tmps : Array Value} {R : Ending → World → Prop} {B : Nat} : ∀ (Ds : List Nat) (w0 w : World), Marks w B Ds → AllBut w0 w → Below B w0 w →
    (∀ w', AllBut w0 w' → Below B w0 w' → LeavesIn F n P fn tmps R [] .returning w') → LeavesInM F n P fn tmps R (Ds.map mark) .returning w
  | [], w0, w, _, ha, hb, h => h w ha hb
  | D :: Ds, w0, w, hm, ha, hb, h => by
    have hD := (hm.at_ D (by simp)).2
    have hB := (hm.at_ D (by simp)).1
    have hnd := List.nodup_cons.1 hm.nodup
    refine ⟨by simp, .inl ⟨D, _, rfl, run_takeDeferred hD, ?_⟩⟩
    refine leaves_marks Ds w0 (w.putObj D (.deferred none)) ⟨hnd.2, fun x hx => ⟨(hm.at_ x (by simp [hx])).1, ?_⟩⟩ ?_ ?_ h
    · rw [World.putObj_heap_other (fun e => by subst e; exact hnd.1 hx)]
      exact (hm.at_ x (by simp [hx])).2
    · refine ⟨ha.os, ha.tape, ha.output, by rw [← ha.size]; simp [World.putObj], fun b hb' => ?_⟩
      have hne : b ≠ D := by
        rintro rfl
        by_cases hq : w0.heap[b]? = some (.deferred (some []))
        · exact hb' hq
        · exact hq ((ha.block b hb').symm.trans hD)
      rw [World.putObj_heap_other hne]
      exact ha.block b hb'
    · refine ⟨hb.os, hb.tape, hb.output, by have := hb.size; simpa [World.putObj] using this, fun b hb' => ?_⟩
      rw [World.putObj_heap_other (by omega)]
      exact hb.block b hb'
end Go.Proofs.YtmnfioghhdgciaaDoor
