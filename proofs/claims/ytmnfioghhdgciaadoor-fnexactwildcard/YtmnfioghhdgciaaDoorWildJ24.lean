import Derived.Test.YtmnfioghhdgciaaDoorWildJ12
import Derived.Test.YtmnfioghhdgciaaDoorWildJ23
import Derived.Test.YtmnfioghhdgciaaDoorWildJ08
namespace Go.Proofs.YtmnfioghhdgciaaDoor
open Go Go.RowKit
set_option linter.unusedVariables false
set_option linter.unusedSimpArgs false
set_option maxRecDepth 100000

/-! What traitOf tells: runs of classes. -/
theorem squeeze_snoc (f : Nat → Nat) (p : Nat × Nat) : ∀ (l : List (Nat × Nat)) (last : Option Nat), squeeze f last (l ++ [p]) = squeeze f last l ++ (if (l.getLast?.map fun s => f s.2).or last = some (f p.2) then [] else [(p.1, f p.2)])
  | [], last => by by_cases h : last = some (f p.2) <;> simp [squeeze, h]
  | (k, v) :: t, last => by
    have hl : ∀ (o : Option Nat), ((((k, v) :: t : List (Nat × Nat)).getLast?.map fun s => f s.2).or o) = ((t.getLast?.map fun s => f s.2).or (some (f v))) := by
      intro o
      cases t with
      | nil => simp
      | cons a t =>
        rw [List.getLast?_cons_cons]
        cases h : (a :: t).getLast? with
        | none => simp at h
        | some x => rfl
    rw [List.cons_append]
    simp only [squeeze]
    by_cases h : last = some (f v)
    · rw [if_pos h, if_pos h, squeeze_snoc f p t last, hl, h]
    · rw [if_neg h, if_neg h, squeeze_snoc f p t (some (f v)), hl, List.cons_append]
/-! What a table is when it is read. -/
structure TabS (W : World) (base tb : Nat) (a0 a1 a2 a3 vrows vfin vcls vpts : Value) (l : List SRow) (bs : List Bool) (cl : List Int) : Prop where
  box : W.heap[tb]? = some (.cells #[a0, a1, a2, a3, vrows, vfin, vcls, vpts] 72)
  rows : RowsS W base vrows l
  fin : W.ownsRow base 4 1 vfin bs.length (bs.map Value.bool)
  cls : W.ownsRow base 3 1 vcls cl.length (zI cl)
section
variable {W W1 : World} {base tb : Nat} {a0 a1 a2 a3 vrows vfin vcls vpts : Value} {l : List SRow} {bs : List Bool} {cl : List Int}
theorem TabS.keep (h : TabS W base tb a0 a1 a2 a3 vrows vfin vcls vpts l bs cl) {X : Nat → Prop} (hb : But X W W1) (hX : ∀ b, X b → ∀ cs t, W.heap[b]? = some (.cells cs t) → t ≠ 72 ∧ t ≠ 104 ∧ t ≠ 106 ∧ t ≠ 4 ∧ t ≠ 3) : TabS W1 base tb a0 a1 a2 a3 vrows vfin vcls vpts l bs cl := by
  have at_ : ∀ (b : Nat) (cs : Array Value) (t : TypeId), (t = 72 ∨ t = 104 ∨ t = 106 ∨ t = 4 ∨ t = 3) → W.heap[b]? = some (.cells cs t) → W1.heap[b]? = some (.cells cs t) := by
    intro b cs t ht hh
    rw [hb.block b (Array.getElem?_eq_some_iff.1 hh).1 (fun hx => ?_)]
    · exact hh
    · have := hX b hx cs t hh
      rcases ht with e | e | e | e | e
      · exact this.1 e
      · exact this.2.1 e
      · exact this.2.2.1 e
      · exact this.2.2.2.1 e
      · exact this.2.2.2.2 e
  refine ⟨at_ _ _ _ (Or.inl rfl) h.box, h.rows.congr fun b cs t ht _ hh => at_ b cs t (by rcases ht with e | e <;> simp [e]) hh, ?_, ?_⟩
  · refine own_congr h.fin (fun b hk => ?_)
    obtain ⟨_, cur, h2⟩ := own_blk h.fin hk
    rw [at_ b cur _ (by simp) h2, h2]
  · refine own_congr h.cls (fun b hk => ?_)
    obtain ⟨_, cur, h2⟩ := own_blk h.cls hk
    rw [at_ b cur _ (by simp) h2, h2]
theorem TabS.below (h : TabS W base tb a0 a1 a2 a3 vrows vfin vcls vpts l bs cl) (hb : Below W.heap.size W W1) : TabS W1 base tb a0 a1 a2 a3 vrows vfin vcls vpts l bs cl := h.keep (X := fun _ => False) (But.of_below hb) (fun b hx => hx.elim)
theorem TabS.setT (h : TabS W base tb a0 a1 a2 a3 vrows vfin vcls vpts l bs cl) {sb : Nat} {vm vmem : Value} {Tr : List (Int × Nat × Nat)} (hs : SetAt keyT W base sb vm vmem Tr) (hb : But (SetB sb vm vmem) W W1) : TabS W1 base tb a0 a1 a2 a3 vrows vfin vcls vpts l bs cl := h.keep hb (fun b hB cs t hh => by
  rcases (hs.blk hB).2 with ⟨c, h1⟩ | ⟨es, c, h1⟩ | ⟨c, h1⟩
  · rw [hh] at h1
    simp only [Option.some.injEq, Obj.cells.injEq] at h1
    rw [h1.2.1]
    decide
  · rw [hh] at h1; cases h1
  · rw [hh] at h1
    simp only [Option.some.injEq, Obj.cells.injEq] at h1
    rw [h1.2.1]
    decide)
end
def kapN (cl : List Int) (q : Nat) : Nat := (cl.getD q 0).toNat
/-- What traitOf leaves. -/
def TrPost (W : World) (base sb : Nat) (vm vmem : Value) (Tr : List (Int × Nat × Nat)) (G : List Mng) (μ : Mng) (m : Nat) (e : Ending) (W' : World) : Prop :=
  ∃ a vm' vmem' Tr' G', e = .returned (.int .i64 a) ∧ SetAt keyT W' base sb vm' vmem' Tr' ∧ TrOK Tr' G' ∧ (∃ r, G' = G ++ r) ∧ NumOK G' a ∧ mean G' a = μ ∧ Tr'.length ≤ Tr.length + m ∧ But (SetB sb vm vmem) W W' ∧ (∀ b, SetB sb vm' vmem' b → SetB sb vm vmem b ∨ W.heap.size ≤ b)
end Go.Proofs.YtmnfioghhdgciaaDoor

namespace Go.Proofs.YtmnfioghhdgciaaDoor
open Go Go.RowKit
set_option linter.unusedVariables false
set_option linter.unusedSimpArgs false
set_option maxRecDepth 100000

/-! impl.table.traitOf. -/
def lastZ (o : Option Nat) : Int := match o with | none => -1 | some c => (c : Int)
theorem lastZ_eq (o : Option Nat) (c : Nat) : ((c : Int) != lastZ o) = decide (o ≠ some c) := by
  cases o with
  | none =>
    have : (c : Int) ≠ -1 := by omega
    simp [lastZ, this]
  | some d =>
    by_cases h : d = c
    · subst h; simp [lastZ]
    · have h2 : (c : Int) ≠ (d : Int) := by omega
      simp [lastZ, h, h2]
theorem last_take {l : List (Nat × Nat)} {t : Nat} {s : Nat × Nat} (h : l[t]? = some s) : (l.take (t + 1)).getLast? = some s := by
  have ht := (List.getElem?_eq_some_iff.1 h).1
  rw [List.take_succ_eq_append_getElem ht]
  have := (List.getElem?_eq_some_iff.1 h).2
  simp [this]
set_option maxHeartbeats 8000000 in
theorem traitOf_any (base tb sb : Nat) (a0 a1 a2 a3 vrows vfin vcls vpts vm vmem : Value) (l : List SRow) (bs : List Bool) (cl : List Int) (q : Nat) (u : Value) (rs : List (Nat × Nat)) (Tr : List (Int × Nat × Nat)) (G : List Mng) (W : World)
    (hq : q < l.length) (hl : l[q]? = some (u, rs)) (hbq : bs.length = l.length) (hcl : cl.length = l.length) (hn : l.length ≤ 1114112) (hrs : ∀ s ∈ rs, s.1 ≤ 1048576 ∧ s.2 < l.length) (hrl : rs.length ≤ 31) (hcb : ∀ z ∈ cl, 0 ≤ z ∧ z ≤ 1114112)
    (hT : TabS W base tb a0 a1 a2 a3 vrows vfin vcls vpts l bs cl) (hS : SetAt keyT W base sb vm vmem Tr) (hTr : TrOK Tr G) (hTl : Tr.length ≤ 1099511627776) (hbase : base ≤ W.heap.size) :
    Calls Tryd.prog 55 #[.pointer (some ⟨tb, 0, none⟩), .int .i64 (q : Int), .pointer (some ⟨sb, 0, none⟩)] W (TrPost W base sb vm vmem Tr G (bs.getD q false, squeeze (kapN cl) none rs) rs.length) := by
  have HT := hidd hT
  have HS := hidd hS
  have HTr := hidd hTr
  have HRS := hidd hrs
  have HLq := hidd hl
  have HCB := hidd hcb
  obtain ⟨g1, c1, hv1⟩ := own_posk hT.rows.row (by omega)
  obtain ⟨g2, c2, hv2⟩ := own_posk hT.fin (by omega)
  obtain ⟨g3, c3, hv3⟩ := own_posk hT.cls (by omega)
  subst hv1
  subst hv2
  subst hv3
  have b1 := blkc hT.box 4
  have b2 := blkc hT.box 5
  have b3 := blkc hT.box 6
  have hu := hT.rows.each _ (List.mem_of_getElem? hl)
  have x1 : W.cell? ⟨g1, q, none⟩ = some u := own_cellk hT.rows.row (by rw [List.getElem?_map, hl]; rfl)
  have x2 : W.cell? ⟨g2, q, none⟩ = some (.bool (bs.getD q false)) := own_cellk hT.fin (by rw [List.getElem?_map, List.getD_eq_getElem?_getD, List.getElem?_eq_getElem (by omega)]; rfl)
  have hqz : (q : Int) < (l.length : Int) := by omega
  have hqb : (q : Int) < (bs.length : Int) := by omega
  have hqbn : q < bs.length := by omega
  obtain ⟨au, cu, hvu⟩ := own_slk hu
  dsimp only at hu hvu
  subst hvu
  have HU := hidd hu
  have HBQ := hidd hbq
  have HCL := hidd hcl
  clear hT hS hTr hrs hcb hl hu hbq hcl
  generalize bs.getD q false = fq at *
  go_enter Tryd.func55, Tryd.ntmps55
  go_upto_if 18 with fail
  go_cut [7, 8] (fun nv lv wx => nv = .int .i64 (if fq = true then -2 else -1) ∧ lv = .int .i64 (-1) ∧ wx = W)
  case first =>
    cases fq with
    | true =>
      go_wp2_with fail
      go_meet
      case rel => exact ⟨rfl, rfl, rfl⟩
    | false =>
      go_wp2_with fail
      go_meet
      case rel => exact ⟨rfl, rfl, rfl⟩
  case rest =>
    obtain ⟨rfl, rfl, hw⟩ := hcut
    obtain rfl := hw.symm
    have HM0 : Hid (NumOK G (if fq = true then -2 else -1) ∧ mean G (if fq = true then -2 else -1) = (fq, squeeze (kapN cl) none (rs.take 0))) := by
      cases fq with
      | true => exact ⟨Or.inr (Or.inl rfl), rfl⟩
      | false => exact ⟨Or.inl rfl, rfl⟩
    generalize (if fq = true then (-2 : Int) else -1) = z0 at *
    go_wp2_with fail
    go_loopw [27, 7, 8] (fun jv nv lv wx => ∃ (t : Nat) (a : Int) (vm' vmem' : Value) (Tr' : List (Int × Nat × Nat)) (G' : List Mng), t ≤ rs.length ∧ jv = .int .i64 (t : Int) ∧ nv = .int .i64 a ∧ lv = .int .i64 (lastZ ((rs.take t).getLast?.map fun s => kapN cl s.2)) ∧ TabS wx base tb a0 a1 a2 a3 (.slice (some ⟨g1, 0, none⟩) l.length c1) (.slice (some ⟨g2, 0, none⟩) bs.length c2) (.slice (some ⟨g3, 0, none⟩) cl.length c3) vpts l bs cl ∧ SetAt keyT wx base sb vm' vmem' Tr' ∧ TrOK Tr' G' ∧ (∃ r, G' = G ++ r) ∧ NumOK G' a ∧ mean G' a = (fq, squeeze (kapN cl) none (rs.take t)) ∧ Tr'.length ≤ Tr.length + t ∧ But (SetB sb vm vmem) W wx ∧ (∀ b, SetB sb vm' vmem' b → SetB sb vm vmem b ∨ W.heap.size ≤ b)) (fun jv _ _ _ => rs.length - (intOf jv).toNat)
    case atStart => exact ⟨0, z0, vm, vmem, Tr, G, Nat.zero_le _, rfl, rfl, rfl, HT.out, HS.out, HTr.out, ⟨[], by simp⟩, HM0.out.1, HM0.out.2, Nat.le_refl _, But.refl _ _, fun b hb => Or.inl hb⟩
    case round =>
      clear HT HS HTr HM0 b1 b2 b3 x1 x2
      obtain ⟨t, a, vm', vmem', Tr', G', ht, rfl, rfl, rfl, hT, hS, hTr, hpre, hnum, hmean, hlen, hbut, hat⟩ := hrel
      have HT := hidd hT
      have HS := hidd hS
      have HTr := hidd hTr
      have HP : Hid ((∃ r, G' = G ++ r) ∧ NumOK G' a ∧ mean G' a = (fq, squeeze (kapN cl) none (rs.take t))) := ⟨hpre, hnum, hmean⟩
      have HBt := hidd hbut
      have HAt := hidd hat
      have hTl' := hlen
      by_cases hlt : t < rs.length
      · have hltz : (t : Int) < (rs.length : Int) := by omega
        obtain ⟨sx, hsx⟩ : ∃ s, rs[t]? = some s := ⟨_, List.getElem?_eq_getElem hlt⟩
        have hsb := HRS.out sx (List.mem_of_getElem? hsx)
        have hrow : wr.ownsRow base 106 2 (.slice au rs.length cu) rs.length (strCells rs) := by
          have := hT.rows.each _ (List.mem_of_getElem? HLq.out)
          exact this
        obtain ⟨gu, cu', hvu⟩ := own_posk hrow (by omega)
        simp only [Value.slice.injEq, true_and] at hvu
        obtain ⟨rfl, rfl⟩ := hvu
        have y0 := own_cellk hrow (str_at rs t sx hsx).1
        have y1 := own_cellk hrow (str_at rs t sx hsx).2
        have hc2 : sx.2 < cl.length := by rw [HCL.out]; exact hsb.2
        have hc2z : (sx.2 : Int) < (cl.length : Int) := by omega
        have hcz : cl.getD sx.2 0 = ((kapN cl sx.2 : Nat) : Int) ∧ kapN cl sx.2 ≤ 1114112 := by
          have h1 := HCB.out (cl.getD sx.2 0) (by rw [List.getD_eq_getElem?_getD, List.getElem?_eq_getElem hc2]; exact List.getElem_mem hc2)
          unfold kapN
          omega
        have y3 : wr.cell? ⟨g3, sx.2, none⟩ = some (.int .i64 ((kapN cl sx.2 : Nat) : Int)) := own_cellk hT.cls (by
          unfold zI
          rw [List.getElem?_map, List.getElem?_eq_getElem hc2, ← hcz.1, List.getD_eq_getElem?_getD, List.getElem?_eq_getElem hc2]; rfl)
        have hcc := hcz.2
        have HTake : Hid (rs.take (t + 1) = rs.take t ++ [sx]) := by
          show _ = _
          rw [List.take_succ_eq_append_getElem hlt, (List.getElem?_eq_some_iff.1 hsx).2]
        have HLt : Hid ((rs.take (t + 1)).getLast?.map (fun s => kapN cl s.2) = some (kapN cl sx.2)) := by show _ = _; rw [last_take hsx]; rfl
        have HSq : Hid (squeeze (kapN cl) none (rs.take (t + 1)) = squeeze (kapN cl) none (rs.take t) ++ (if ((rs.take t).getLast?.map fun s => kapN cl s.2) = some (kapN cl sx.2) then [] else [(sx.1, kapN cl sx.2)])) := by
          show _ = _
          rw [HTake.out, squeeze_snoc, Option.or_none]
        have hneq := lastZ_eq ((rs.take t).getLast?.map fun s => kapN cl s.2) (kapN cl sx.2)
        generalize ((rs.take t).getLast?.map fun s => kapN cl s.2) = o at *
        generalize kapN cl sx.2 = c at *
        have HW2 := hidd (hT.below ((Below.refl wr.heap.size wr).alloc (Nat.le_refl _) (.cells #[.int .i64 (sx.1 : Int), .int .i64 (sx.2 : Int)] 106)))
        have HS2 := hidd (hS.below ((Below.refl wr.heap.size wr).alloc (Nat.le_refl _) (.cells #[.int .i64 (sx.1 : Int), .int .i64 (sx.2 : Int)] 106)))
        have hnbx : (wr.alloc (.cells #[.int .i64 (sx.1 : Int), .int .i64 (sx.2 : Int)] 106)).heap[wr.heap.size]? = some (.cells #[.int .i64 (sx.1 : Int), .int .i64 (sx.2 : Int)] 106) := heap_alloc_new _ _
        have HBt2 := hidd (hbut.alloc (.cells #[.int .i64 (sx.1 : Int), .int .i64 (sx.2 : Int)] 106))
        have y3' := ((Below.refl wr.heap.size wr).alloc (Nat.le_refl _) (.cells #[.int .i64 (sx.1 : Int), .int .i64 (sx.2 : Int)] 106)).cell (p := ⟨g3, sx.2, none⟩) (cell_lt y3)
        rw [y3] at y3'
        clear hT hS hTr hpre hnum hmean hbut hat hrow hcz hc2z hsx HT HS HBt
        go_upto_region 7 with fail
        clear y0 y1 y3
        generalize wr.alloc (.cells #[.int .i64 (sx.1 : Int), .int .i64 (sx.2 : Int)] 106) = W2 at *
        have z6 := blkc HW2.out.box 6
        have n0 := blkc hnbx 0
        have n1 := blkc hnbx 1
        have hc2z : (sx.2 : Int) < (cl.length : Int) := by omega
        by_cases ho : o = some c
        · have hne : ((c : Int) != lastZ o) = false := by rw [hneq]; simp [ho]
          have HLo : Hid (lastZ o = lastZ (some c)) := by show _ = _; rw [ho]
          have HSq2 : Hid (squeeze (kapN cl) none (rs.take (t + 1)) = squeeze (kapN cl) none (rs.take t)) := by show _ = _; rw [HSq.out, if_pos ho, List.append_nil]
          clear ho hneq
          generalize lastZ o = lz at *
          go_quiet (fail)
          have hbq : Below W2.heap.size W2 (W2.drewN nq) := ⟨rfl, rfl, rfl, Nat.le_refl _, fun _ _ => rfl⟩
          have HW3 := hidd (HW2.out.below hbq)
          have HS3 := hidd (HS2.out.below hbq)
          have HBt3 := hidd (HBt2.out.drewN nq)
          clear hbq z6 n0 n1 y3' hnbx
          go_wp2_with fail
          go_roundw
          case rel => exact ⟨t + 1, a, vm', vmem', Tr', G', by omega, by go_num, rfl, by rw [HLt.out, HLo.out], HW3.out, HS3.out, HTr.out, HP.out.1, HP.out.2.1, by rw [HSq2.out]; exact HP.out.2.2, by omega, HBt3.out, HAt.out⟩
          case measure => simp [intOf]; omega
        · have hne : ((c : Int) != lastZ o) = true := by rw [hneq]; simp [ho]
          have HSq2 : Hid (squeeze (kapN cl) none (rs.take (t + 1)) = squeeze (kapN cl) none (rs.take t) ++ [(sx.1, c)]) := by show _ = _; rw [HSq.out, if_neg ho]
          have hab : -2 ≤ a ∧ a ≤ 2199023255552 := by
            have h1 := HTr.out.len
            rcases HP.out.2.1 with h | h | h <;> omega
          clear ho hneq
          generalize lastZ o = lz at *
          go_quiet (fail)
          have hbq : Below W2.heap.size W2 (W2.drewN nq) := ⟨rfl, rfl, rfl, Nat.le_refl _, fun _ _ => rfl⟩
          have HW3 := hidd (HW2.out.below hbq)
          have HS3 := hidd (HS2.out.below hbq)
          have HBt3 := hidd (HBt2.out.drewN nq)
          have n0' := blkc (blko hnbx hbq) 0
          clear hbq z6 n0 n1 y3' hnbx
          generalize W2.drewN nq = W3 at *
          go_wp2_with fail
          refine (placeT_any base sb vm' vmem' Tr' (a, sx.1, c) _ ⟨⟨by show _ ≤ a; omega, by show a ≤ _; omega⟩, by show sx.1 ≤ _; omega, by show c ≤ _; omega⟩ (by omega) (Nat.le_trans hbase HBt3.out.size) HS3.out).mono ?_
          rintro e w4 ⟨rfl, vm4, vmem4, hs4, hbut4, hat4, hat4'⟩
          have HG : Hid (∃ G4, TrOK (meet Tr' (a, sx.1, c)) G4 ∧ (∃ r, G4 = G ++ r) ∧ NumOK G4 ((ix (meet Tr' (a, sx.1, c)) (a, sx.1, c) : Nat) : Int) ∧ mean G4 ((ix (meet Tr' (a, sx.1, c)) (a, sx.1, c) : Nat) : Int) = (fq, squeeze (kapN cl) none (rs.take (t + 1))) ∧ (meet Tr' (a, sx.1, c)).length ≤ Tr.length + (t + 1)) := by
            obtain ⟨⟨r, hr⟩, hn1, hm1⟩ := HP.out
            by_cases hm : (a, sx.1, c) ∈ Tr'
            · have hix := ix_at hm
              obtain ⟨h1, h2⟩ := HTr.out.found hix
              rw [meet_old hm]
              refine ⟨G', HTr.out, ⟨r, hr⟩, h1, ?_, by omega⟩
              rw [h2, HSq2.out]
              show ((mean G' a).1, (mean G' a).2 ++ [(sx.1, c)]) = _
              rw [hm1]
            · rw [meet_fresh hm, ix_new hm]
              refine ⟨_, HTr.out.push (t := (a, sx.1, c)) hn1 hm, ⟨r ++ [((mean G' a).1, (mean G' a).2 ++ [(sx.1, c)])], by rw [hr, List.append_assoc]⟩, (mean_new HTr.out _).1, ?_, by rw [List.length_append]; simp; omega⟩
              rw [(mean_new HTr.out _).2, HSq2.out]
              show ((mean G' a).1, (mean G' a).2 ++ [(sx.1, c)]) = _
              rw [hm1]
          have HW4 := hidd (HW3.out.setT HS3.out hbut4)
          have HS4 := hidd hs4
          have HBt4 : Hid (But (SetB sb vm vmem) W w4) := by
            refine ⟨hbut4.os.trans HBt3.out.os, hbut4.tape.trans HBt3.out.tape, hbut4.output.trans HBt3.out.output, Nat.le_trans HBt3.out.size hbut4.size, fun b hb hnB => ?_⟩
            rw [hbut4.block b (Nat.lt_of_lt_of_le hb HBt3.out.size) (fun hB => ?_), HBt3.out.block b hb hnB]
            rcases HAt.out b hB with h1 | h1
            · exact hnB h1
            · omega
          have HAt4 : Hid (∀ b, SetB sb vm4 vmem4 b → SetB sb vm vmem b ∨ W.heap.size ≤ b) := by
            intro b hB
            have hsz := HBt3.out.size
            rcases hB with e | e | e
            · exact Or.inl (Or.inl e)
            · rcases hat4' b e with h1 | h1
              · exact HAt.out b (Or.inr (Or.inl h1))
              · exact Or.inr (by omega)
            · rcases hat4 b e with h1 | h1
              · exact HAt.out b (Or.inr (Or.inr h1))
              · exact Or.inr (by omega)
          generalize meet Tr' (a, sx.1, c) = Tr4 at *
          generalize ix Tr4 (a, sx.1, c) = i4 at *
          obtain ⟨G4, hg1, hg2, hg3, hg4, hg5⟩ := HG.out
          have HG4 : Hid (TrOK Tr4 G4 ∧ (∃ r, G4 = G ++ r) ∧ NumOK G4 (i4 : Int) ∧ mean G4 (i4 : Int) = (fq, squeeze (kapN cl) none (rs.take (t + 1))) ∧ Tr4.length ≤ Tr.length + (t + 1)) := ⟨hg1, hg2, hg3, hg4, hg5⟩
          clear hs4 hbut4 hat4 hat4' HG hg1 hg2 hg3 hg4 hg5 n0' HW3 HS3 HBt3
          go_wp2_with fail
          go_roundw
          case rel => exact ⟨t + 1, (i4 : Int), vm4, vmem4, Tr4, G4, by omega, by go_num, rfl, by rw [HLt.out]; rfl, HW4.out, HS4.out, HG4.out.1, HG4.out.2.1, HG4.out.2.2.1, HG4.out.2.2.2.1, HG4.out.2.2.2.2, HBt4.out, HAt4.out⟩
          case measure => simp [intOf]; omega
      · have hltz : ¬ (t : Int) < (rs.length : Int) := by omega
        obtain rfl : t = rs.length := by omega
        have HFin : Hid (TrPost W base sb vm vmem Tr G (fq, squeeze (kapN cl) none rs) rs.length (.returned (.int .i64 a)) wr) := ⟨a, vm', vmem', Tr', G', rfl, hS, hTr, hpre, hnum, by rw [hmean, List.take_length], hlen, hbut, hat⟩
        clear hT hS hTr hpre hnum hmean hbut hat HT HS HTr HP HBt HAt
        go_wp2_with fail
        go_ret
        exact HFin.out
end Go.Proofs.YtmnfioghhdgciaaDoor

namespace Go.Proofs.YtmnfioghhdgciaaDoor
open Go Go.RowKit
set_option linter.unusedVariables false
set_option linter.unusedSimpArgs false
set_option maxRecDepth 100000

/-! Rows of ints that are only read, beside one that is written (its block is g3). -/
def HoldO (W : World) (g3 : Nat) (v : Value) (zs : List Int) : Prop :=
  ∃ g off cap cur, v = .slice (some ⟨g, off, none⟩) zs.length cap ∧ W.heap[g]? = some (.cells cur 3) ∧ g ≠ g3 ∧ ∀ t, t < zs.length → W.cell? ⟨g, off + t, none⟩ = some (.int .i64 (zs.getD t 0))
theorem HoldO.keep {W W' : World} {g3 : Nat} {v : Value} {zs : List Int} {X : Nat → Prop} (h : HoldO W g3 v zs) (hb : But X W W') (hX : ∀ b, X b → b = g3 ∨ ∀ cur, W.heap[b]? ≠ some (.cells cur 3)) : HoldO W' g3 v zs := by
  obtain ⟨g, off, cap, cur, rfl, h1, h2, h3⟩ := h
  have hg := (Array.getElem?_eq_some_iff.1 h1).1
  have hn : ¬ X g := fun hx => by
    rcases hX g hx with e | e
    · exact h2 e
    · exact e cur h1
  refine ⟨g, off, cap, cur, rfl, (hb.block g hg hn).trans h1, h2, fun t ht => ?_⟩
  rw [hb.cell (p := ⟨g, off + t, none⟩) hg hn]
  exact h3 t ht
theorem HoldO.below {W W' : World} {g3 : Nat} {v : Value} {zs : List Int} (h : HoldO W g3 v zs) (hb : Below W.heap.size W W') : HoldO W' g3 v zs := h.keep (X := fun _ => False) (But.of_below hb) (fun b hx => hx.elim)
theorem HoldO.own {W : World} {base g3 : Nat} {v : Value} {zs : List Int} (h : W.ownsRow base 3 1 v zs.length (zI zs)) (hne : zs ≠ []) (hg : g3 < base) : HoldO W g3 v zs := by
  have hp : 0 < zs.length := List.length_pos_iff.2 hne
  obtain ⟨g, cap, rfl⟩ := own_posk h hp
  obtain ⟨h1, cur, h2⟩ := own_blk h (b := g) rfl
  refine ⟨g, 0, cap, cur, rfl, h2, by omega, fun t ht => ?_⟩
  obtain ⟨g', o', e, _, hc⟩ := (HoldI.own h).cells ht
  simp only [Option.some.injEq, Addr.mk.injEq, and_true] at e
  obtain ⟨rfl, rfl⟩ := e
  exact hc
/-- What parted has while it goes over the members. -/
structure Pd (W0 W : World) (base sk sb : Nat) (vmk vk vp : Value) (Ks : List Int) (us : List Value) (gs : List (List Nat)) (vm0 vmem0 vm vmem : Value) (Tr : List (Int × Nat × Nat)) (G : List Mng) : Prop where
  ks : SetAt keyI W W0.heap.size sk vmk vk Ks
  ksb : W0.heap.size ≤ sk
  pr : W.ownsRow W0.heap.size 30 1 vp us.length us
  rows : ∃ R, RowsF W W0.heap.size R ∧ R 0 = some (vk, Ks) ∧ ∀ j u g, us[j]? = some u → gs[j]? = some g → R (j + 1) = some (u, nat2 g)
  len : us.length = gs.length
  ts : SetAt keyT W base sb vm vmem Tr
  tr : TrOK Tr G
  dis : ∀ b, SetB sk vmk vk b → ¬ SetB sb vm vmem b
  but : But (SetB sb vm0 vmem0) W0 W
  hat : ∀ b, SetB sb vm vmem b → SetB sb vm0 vmem0 b ∨ W0.heap.size ≤ b
section
variable {W0 W W1 : World} {base sk sb : Nat} {vmk vk vp : Value} {Ks : List Int} {us : List Value} {gs : List (List Nat)} {vm0 vmem0 vm vmem : Value} {Tr : List (Int × Nat × Nat)} {G : List Mng}
theorem setT_types (h : SetAt keyT W base sb vm vmem Tr) {b : Nat} {cs : Array Value} {t : TypeId} (hB : SetB sb vm vmem b) (hh : W.heap[b]? = some (.cells cs t)) : t = 111 ∨ t = 133 := by
  rcases (h.blk hB).2 with ⟨c, h1⟩ | ⟨es, c, h1⟩ | ⟨c, h1⟩
  · rw [hh] at h1; simp only [Option.some.injEq, Obj.cells.injEq] at h1; exact Or.inl h1.2.1
  · rw [hh] at h1; cases h1
  · rw [hh] at h1; simp only [Option.some.injEq, Obj.cells.injEq] at h1; exact Or.inr h1.2.1
theorem setI_types (h : SetAt keyI W base sk vmk vk Ks) {b : Nat} {cs : Array Value} {t : TypeId} (hB : SetB sk vmk vk b) (hh : W.heap[b]? = some (.cells cs t)) : t = 120 ∨ t = 3 := by
  rcases (h.blk hB).2 with ⟨c, h1⟩ | ⟨es, c, h1⟩ | ⟨c, h1⟩
  · rw [hh] at h1; simp only [Option.some.injEq, Obj.cells.injEq] at h1; exact Or.inl h1.2.1
  · rw [hh] at h1; cases h1
  · rw [hh] at h1; simp only [Option.some.injEq, Obj.cells.injEq] at h1; exact Or.inr h1.2.1
/-- Behind a call of traitOf. -/
theorem Pd.trait (h : Pd W0 W base sk sb vmk vk vp Ks us gs vm0 vmem0 vm vmem Tr G) {vm' vmem' : Value} {Tr' : List (Int × Nat × Nat)} {G' : List Mng} (hs : SetAt keyT W1 base sb vm' vmem' Tr') (ht : TrOK Tr' G') (hb : But (SetB sb vm vmem) W W1) (hat : ∀ b, SetB sb vm' vmem' b → SetB sb vm vmem b ∨ W.heap.size ≤ b) : Pd W0 W1 base sk sb vmk vk vp Ks us gs vm0 vmem0 vm' vmem' Tr' G' := by
  refine ⟨h.ks.but hb h.dis, h.ksb, own_congr h.pr (fun b hk => ?_), ?_, h.len, hs, ht, fun b hB hB' => ?_, ?_, fun b hB => ?_⟩
  · obtain ⟨_, cur, h2⟩ := own_blk h.pr hk
    refine hb.block b (Array.getElem?_eq_some_iff.1 h2).1 (fun hx => ?_)
    rcases setT_types h.ts hx h2 with e | e <;> exact absurd e (by decide)
  · obtain ⟨R, h1, h2, h3⟩ := h.rows
    refine ⟨R, h1.but hb (fun b hx cur e => ?_), h2, h3⟩
    rcases setT_types h.ts hx e with e | e <;> exact absurd e (by decide)
  · rcases hat b hB' with h1 | h1
    · exact h.dis b hB h1
    · have := (h.ks.blk hB).1; omega
  · refine ⟨hb.os.trans h.but.os, hb.tape.trans h.but.tape, hb.output.trans h.but.output, Nat.le_trans h.but.size hb.size, fun b hb' hnB => ?_⟩
    rw [hb.block b (Nat.lt_of_lt_of_le hb' h.but.size) (fun hB => ?_), h.but.block b hb' hnB]
    rcases h.hat b hB with h1 | h1
    · exact hnB h1
    · omega
  · rcases hat b hB with h1 | h1
    · exact h.hat b h1
    · exact Or.inr (Nat.le_trans h.but.size h1)
/-- Behind a call of place with a key. -/
theorem Pd.place (h : Pd W0 W base sk sb vmk vk vp Ks us gs vm0 vmem0 vm vmem Tr G) {vmk' vk' : Value} {Ks' : List Int} (hs : SetAt keyI W1 W0.heap.size sk vmk' vk' Ks') (hb : But (SetB sk vmk vk) W W1) (hat : ∀ b, vk'.ownBlock = some b → vk.ownBlock = some b ∨ W.heap.size ≤ b) (hat2 : ∀ b, vmk' = .map (some b) → vmk = .map (some b) ∨ W.heap.size ≤ b) : Pd W0 W1 base sk sb vmk' vk' vp Ks' us gs vm0 vmem0 vm vmem Tr G := by
  have hge : ∀ b, SetB sk vmk vk b → W0.heap.size ≤ b := fun b hB => by
    rcases h.ks.from_ hB with e | e
    · rw [e]; exact h.ksb
    · exact e
  refine ⟨hs, h.ksb, own_congr h.pr (fun b hk => ?_), ?_, h.len, h.ts.but hb (fun b hB hB' => h.dis b hB' hB), h.tr, fun b hB hB' => ?_, ?_, h.hat⟩
  · obtain ⟨_, cur, h2⟩ := own_blk h.pr hk
    refine hb.block b (Array.getElem?_eq_some_iff.1 h2).1 (fun hx => ?_)
    rcases setI_types h.ks hx h2 with e | e <;> exact absurd e (by decide)
  · obtain ⟨R, h1, h2, h3⟩ := h.rows
    refine ⟨upd R 0 (some (vk', Ks')), h1.place h2 h.ks hs hb hat, upd_same _ _ _, fun j u g hj hg => ?_⟩
    rw [upd_other _ _ (by omega)]
    exact h3 j u g hj hg
  · have hlt := (h.ts.blk hB').1
    rcases hB with e | e | e
    · exact h.dis b (Or.inl e) hB'
    · rcases hat2 b e with h1 | h1
      · exact h.dis b (Or.inr (Or.inl h1)) hB'
      · omega
    · rcases hat b e with h1 | h1
      · exact h.dis b (Or.inr (Or.inr h1)) hB'
      · omega
  · refine ⟨hb.os.trans h.but.os, hb.tape.trans h.but.tape, hb.output.trans h.but.output, Nat.le_trans h.but.size hb.size, fun b hb' hnB => ?_⟩
    rw [hb.block b (Nat.lt_of_lt_of_le hb' h.but.size) (fun hB => by have := hge b hB; omega), h.but.block b hb' hnB]
/-- A piece more, empty. -/
theorem Pd.more (h : Pd W0 W base sk sb vmk vk vp Ks us gs vm0 vmem0 vm vmem Tr G) {vp' : Value} (hb : But (fun b => vp.ownBlock = some b) W W1) (ho : W1.ownsRow W0.heap.size 30 1 vp' (us.length + 1) (us ++ [nilS])) : Pd W0 W1 base sk sb vmk vk vp' Ks (us ++ [nilS]) (gs ++ [[]]) vm0 vmem0 vm vmem Tr G := by
  have hne : ∀ b, vp.ownBlock = some b → ∀ cs t, W.heap[b]? = some (.cells cs t) → t = 30 := fun b hk cs t hh => by
    obtain ⟨_, cur, h2⟩ := own_blk h.pr hk
    rw [hh] at h2
    simp only [Option.some.injEq, Obj.cells.injEq] at h2
    exact h2.2.1
  have hc : ∀ b, vp.ownBlock = some b → ∃ cs, W.heap[b]? = some (.cells cs 30) := fun b hk => (own_blk h.pr hk).2
  refine ⟨h.ks.but hb (fun b hB hk => ?_), h.ksb, by rw [List.length_append, List.length_singleton]; exact ho, ?_, by rw [List.length_append, List.length_append, h.len]; rfl, h.ts.but hb (fun b hB hk => ?_), h.tr, h.dis, ?_, h.hat⟩
  · obtain ⟨cs, h1⟩ := hc b hk
    rcases setI_types h.ks hB h1 with e | e <;> exact absurd e (by decide)
  · obtain ⟨R, h1, h2, h3⟩ := h.rows
    have h1' : RowsF W1 W0.heap.size R := h1.but hb (fun b hk cur e => absurd (hne b hk cur _ e) (by decide))
    refine ⟨upd R (us.length + 1) (some (nilS, [])), ⟨fun a u zs ha => ?_, fun a b u zs x ys hab ha hb' => ?_⟩, by rw [upd_other _ _ (by omega)]; exact h2, fun j u g hj hg => ?_⟩
    · by_cases e : a = us.length + 1
      · rw [e, upd_same] at ha; cases ha; exact World.ownsRow_nil _ _ _ _
      · rw [upd_other _ _ e] at ha; exact h1'.own a u zs ha
    · by_cases e : a = us.length + 1
      · rw [e, upd_same] at ha; cases ha; exact Or.inl rfl
      · rw [upd_other _ _ e] at ha
        by_cases e2 : b = us.length + 1
        · rw [e2, upd_same] at hb'; cases hb'
          cases hu : u.ownBlock with
          | none => exact Or.inl rfl
          | some k => exact Or.inr (by simp [Value.ownBlock])
        · rw [upd_other _ _ e2] at hb'; exact h1'.apart a b u zs x ys hab ha hb'
    · by_cases e : j < us.length
      · rw [upd_other _ _ (by omega)]
        rw [List.getElem?_append_left e] at hj
        rw [List.getElem?_append_left (by rw [← h.len]; exact e)] at hg
        exact h3 j u g hj hg
      · have hjl : j = us.length := by have := (List.getElem?_eq_some_iff.1 hj).1; simp at this; omega
        subst hjl
        rw [upd_same]
        have e1 : u = nilS := by simpa using hj.symm
        have e2 : g = [] := by rw [h.len] at hg; simpa using hg.symm
        rw [e1, e2]; rfl
  · obtain ⟨cs, h1⟩ := hc b hk
    rcases setT_types h.ts hB h1 with e | e <;> exact absurd e (by decide)
  · refine ⟨hb.os.trans h.but.os, hb.tape.trans h.but.tape, hb.output.trans h.but.output, Nat.le_trans h.but.size hb.size, fun b hb' hnB => ?_⟩
    rw [hb.block b (Nat.lt_of_lt_of_le hb' h.but.size) (fun hk => by have := (own_blk h.pr hk).1; omega), h.but.block b hb' hnB]
/-- A member more in a piece. -/
theorem Pd.push (h : Pd W0 W base sk sb vmk vk vp Ks us gs vm0 vmem0 vm vmem Tr G) {j q : Nat} {u u' : Value} {g : List Nat} {gp cp : Nat} (hvp : vp = .slice (some ⟨gp, 0, none⟩) us.length cp) (hj : us[j]? = some u) (hg : gs[j]? = some g) (hb : But (fun b => u.ownBlock = some b) W W1) (ho : W1.ownsRow W0.heap.size 3 1 u' (g.length + 1) (zI (nat2 g) ++ [.int .i64 (q : Int)])) (hat : ∀ b, u'.ownBlock = some b → u.ownBlock = some b ∨ W.heap.size ≤ b) (hone : u'.oneCell' = true) :
    Pd W0 (W1.setCell ⟨gp, j, none⟩ u') base sk sb vmk vk vp Ks (us.set j u') (gs.set j (g ++ [q])) vm0 vmem0 vm vmem Tr G ∧ W1.ownsRow W0.heap.size 30 1 vp us.length us := by
  obtain ⟨R, h1, h2, h3⟩ := h.rows
  have hR := h3 j u g hj hg
  have hown := h1.own (j + 1) u (nat2 g) hR
  have hint : ∀ b, u.ownBlock = some b → ∃ cs, W.heap[b]? = some (.cells cs 3) := fun b hk => (own_blk hown hk).2
  have hjl := (List.getElem?_eq_some_iff.1 hj).1
  have hpr1 : W1.ownsRow W0.heap.size 30 1 vp us.length us := own_congr h.pr (fun b hk => by
    obtain ⟨_, cur, hh⟩ := own_blk h.pr hk
    refine hb.block b (Array.getElem?_eq_some_iff.1 hh).1 (fun hx => ?_)
    obtain ⟨cs, h4⟩ := hint b hx
    exact blk_ne hh h4 (by decide) rfl)
  have hgp := own_blk hpr1 (b := gp) (by rw [hvp]; rfl)
  obtain ⟨hgp1, curp, hgp2⟩ := hgp
  have hks1 : SetAt keyI W1 W0.heap.size sk vmk vk Ks := h.ks.but hb (fun b hB hk => by
    obtain ⟨cs, h4⟩ := hint b hk
    rcases setI_X h.ks b hB with h5 | h5
    · rcases h1.apart 0 (j + 1) vk Ks u (nat2 g) (by omega) h2 hR with h6 | h6
      · rw [h5] at h6; cases h6
      · exact h6 (h5.trans hk.symm)
    · exact h5 cs h4)
  have hts1 : SetAt keyT W1 base sb vm vmem Tr := h.ts.but hb (fun b hB hk => by
    obtain ⟨cs, h4⟩ := hint b hk
    rcases setT_types h.ts hB h4 with e | e <;> exact absurd e (by decide))
  have hrow1 : RowsF W1 W0.heap.size (upd R (j + 1) (some (u', nat2 (g ++ [q])))) := h1.growB hR hb (by
    rw [nat2_app, show nat2 [q] = [(q : Int)] from rfl, zI_snoc, List.length_append, nat2_len, List.length_singleton]
    exact ho) hat
  refine ⟨⟨?_, h.ksb, ?_, ?_, by rw [List.length_set, List.length_set, h.len], ?_, h.tr, h.dis, ?_, h.hat⟩, hpr1⟩
  · refine hks1.keep (fun b hB => heap_set_other _ _ _ _ _ ?_)
    rintro rfl
    rcases setI_types hks1 hB hgp2 with e | e <;> exact absurd e (by decide)
  · rw [List.length_set]
    subst hvp
    refine ⟨by rw [List.length_set]; exact hpr1.1, ?_⟩
    rcases hpr1.2 with ⟨h', _⟩ | ⟨g', c', cur, k1, k2, k3, k4, k5, k6, k7⟩
    · simp at h'
    · simp only [Value.slice.injEq, Option.some.injEq, Addr.mk.injEq, and_true, true_and] at k1
      obtain ⟨rfl, rfl⟩ := k1
      refine Or.inr ⟨gp, cp, cur.setIfInBounds j u', rfl, k2, blk_setk k3 j _, k4, k5, by simpa using k6, ?_⟩
      rw [Array.toList_setIfInBounds, List.take_set, k7]
  · refine ⟨upd R (j + 1) (some (u', nat2 (g ++ [q]))), hrow1.but ((But.refl (fun b => b = gp) W1).set gp j u' rfl) (fun b hB cur e => ?_), by rw [upd_other _ _ (by omega)]; exact h2, fun i v k hi hk => ?_⟩
    · subst hB
      exact blk_ne hgp2 e (by decide) rfl
    · by_cases e : i = j
      · subst e
        rw [upd_same]
        rw [List.getElem?_set_self hjl] at hi
        rw [List.getElem?_set_self (by rw [← h.len]; exact hjl)] at hk
        cases hi; cases hk; rfl
      · rw [upd_other _ _ (by omega)]
        rw [List.getElem?_set_ne (Ne.symm e)] at hi hk
        exact h3 i v k hi hk
  · refine hts1.keep (fun b hB => heap_set_other _ _ _ _ _ ?_)
    rintro rfl
    rcases setT_types hts1 hB hgp2 with e | e <;> exact absurd e (by decide)
  · refine ⟨hb.os.trans h.but.os, hb.tape.trans h.but.tape, hb.output.trans h.but.output, by have := Nat.le_trans h.but.size hb.size; simpa [World.setCell] using this, fun b hb' hnB => ?_⟩
    rw [heap_set_other _ _ _ _ _ (by omega), hb.block b (Nat.lt_of_lt_of_le hb' h.but.size) (fun hk => by have := (own_blk hown hk).1; omega), h.but.block b hb' hnB]
end
end Go.Proofs.YtmnfioghhdgciaaDoor
