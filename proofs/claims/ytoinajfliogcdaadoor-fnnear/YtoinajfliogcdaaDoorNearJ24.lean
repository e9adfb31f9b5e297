import Derived.Test.YtoinajfliogcdaaDoorNearJ17
import Derived.Test.YtoinajfliogcdaaDoorNearJ23
namespace Go.Proofs.YtoinajfliogcdaaDoor
open Go Go.RowKit
set_option linter.unusedVariables false
set_option linter.unusedSimpArgs false
set_option maxRecDepth 100000

theorem squeeze_snoc (f : Nat → Nat) (p : Nat × Nat) : ∀ (l : List (Nat × Nat)) (last : Option Nat), squeeze f last (l ++ [p]) = squeeze f last l ++ (if (l.getLast?.map fun s => f s.2).or last = some (f p.2) then [] else [(p.1, f p.2)])
 | [], last => by by_cases h : last = some (f p.2) <;> simp [squeeze, h]
 | (k, v) :: t, last => by
  have hl : ∀ (o : Option Nat), ((((k, v) :: t : List (Nat × Nat)).getLast?.map fun s => f s.2).or o) = ((t.getLast?.map fun s => f s.2).or (some (f v))) := by
   intro o
   cases t with
   | nil => simp
   | cons a t =>
    rw [List.getLast?_cons_cons]
    cases h : (a :: t).getLast? with
    | none => simp at h
    | some x => rfl
  rw [List.cons_append]
  simp only [squeeze]
  by_cases h : last = some (f v)
  ·rw [if_pos h, if_pos h, squeeze_snoc f p t last, hl, h]
  ·rw [if_neg h, if_neg h, squeeze_snoc f p t (some (f v)), hl, List.cons_append]
structure TabS (W : World) (base tb : Nat) (a0 a1 a2 a3 vrows vfin vcls vpts : Value) (l : List SRow) (bs : List Bool) (cl : List Int) : Prop where
 box : W.heap[tb]? = some (.cells #[a0, a1, a2, a3, vrows, vfin, vcls, vpts] 127)
 rows : RowsS W base vrows l
 fin : W.ownsRow base 4 1 vfin bs.length (bs.map Value.bool)
 cls : W.ownsRow base 3 1 vcls cl.length (zI cl)
section
variable {W W1 : World} {base tb : Nat} {a0 a1 a2 a3 vrows vfin vcls vpts : Value} {l : List SRow} {bs : List Bool} {cl : List Int}
theorem TabS.keep (h : TabS W base tb a0 a1 a2 a3 vrows vfin vcls vpts l bs cl) {X : Nat → Prop} (hb : But X W W1) (hX : ∀ b, X b → ∀ cs t, W.heap[b]? = some (.cells cs t) → t ≠ 127 ∧ t ≠ 162 ∧ t ≠ 164 ∧ t ≠ 4 ∧ t ≠ 3) : TabS W1 base tb a0 a1 a2 a3 vrows vfin vcls vpts l bs cl := by
 have at_ : ∀ (b : Nat) (cs : Array Value) (t : TypeId), (t = 127 ∨ t = 162 ∨ t = 164 ∨ t = 4 ∨ t = 3) → W.heap[b]? = some (.cells cs t) → W1.heap[b]? = some (.cells cs t) := by
  intro b cs t ht hh
  rw [hb.block b (Array.getElem?_eq_some_iff.1 hh).1 (fun hx => ?_)]
  ·exact hh
  ·have := hX b hx cs t hh
   rcases ht with e | e | e | e | e
   ·exact this.1 e
   ·exact this.2.1 e
   ·exact this.2.2.1 e
   ·exact this.2.2.2.1 e
   ·exact this.2.2.2.2 e
 refine ⟨at_ _ _ _ (Or.inl rfl) h.box, h.rows.congr fun b cs t ht _ hh => at_ b cs t (by rcases ht with e | e <;> simp [e]) hh, ?_, ?_⟩
 ·refine own_congr h.fin (fun b hk => ?_)
  obtain ⟨_, cur, h2⟩ := own_blk h.fin hk
  rw [at_ b cur _ (by simp) h2, h2]
 ·refine own_congr h.cls (fun b hk => ?_)
  obtain ⟨_, cur, h2⟩ := own_blk h.cls hk
  rw [at_ b cur _ (by simp) h2, h2]
theorem TabS.below (h : TabS W base tb a0 a1 a2 a3 vrows vfin vcls vpts l bs cl) (hb : Below W.heap.size W W1) : TabS W1 base tb a0 a1 a2 a3 vrows vfin vcls vpts l bs cl := h.keep (X := fun _ => False) (But.of_below hb) (fun b hx => hx.elim)
theorem TabS.setT (h : TabS W base tb a0 a1 a2 a3 vrows vfin vcls vpts l bs cl) {sb : Nat} {vm vmem : Value} {Tr : List (Int × Nat × Nat)} (hs : SetAt keyT W base sb vm vmem Tr) (hb : But (SetB sb vm vmem) W W1) : TabS W1 base tb a0 a1 a2 a3 vrows vfin vcls vpts l bs cl := h.keep hb (fun b hB cs t hh => by
 rcases (hs.blk hB).2 with ⟨c, h1⟩ | ⟨es, c, h1⟩ | ⟨c, h1⟩
 ·rw [hh] at h1
  simp only [Option.some.injEq, Obj.cells.injEq] at h1
  rw [h1.2.1]
  decide
 ·rw [hh] at h1; cases h1
 ·rw [hh] at h1
  simp only [Option.some.injEq, Obj.cells.injEq] at h1
  rw [h1.2.1]
  decide)
end
def kapN (cl : List Int) (q : Nat) : Nat := (cl.getD q 0).toNat
def TrPost (W : World) (base sb : Nat) (vm vmem : Value) (Tr : List (Int × Nat × Nat)) (G : List Mng) (μ : Mng) (m : Nat) (e : Ending) (W' : World) : Prop :=
 ∃ a vm' vmem' Tr' G', e = .returned (.int .i64 a) ∧ SetAt keyT W' base sb vm' vmem' Tr' ∧ TrOK Tr' G' ∧ (∃ r, G' = G ++ r) ∧ NumOK G' a ∧ mean G' a = μ ∧ Tr'.length ≤ Tr.length + m ∧ But (SetB sb vm vmem) W W' ∧ (∀ b, SetB sb vm' vmem' b → SetB sb vm vmem b ∨ W.heap.size ≤ b)
end Go.Proofs.YtoinajfliogcdaaDoor

namespace Go.Proofs.YtoinajfliogcdaaDoor
open Go Go.RowKit
set_option linter.unusedVariables false
set_option linter.unusedSimpArgs false
set_option maxRecDepth 100000

def lastZ (o : Option Nat) : Int := match o with | none => -1 | some c => (c : Int)
theorem lastZ_eq (o : Option Nat) (c : Nat) : ((c : Int) != lastZ o) = decide (o ≠ some c) := by
 cases o with
 | none =>
  have : (c : Int) ≠ -1 := by omega
  simp [lastZ, this]
 | some d =>
  by_cases h : d = c
  ·subst h; simp [lastZ]
  ·have h2 : (c : Int) ≠ (d : Int) := by omega
   simp [lastZ, h, h2]
theorem last_take {l : List (Nat × Nat)} {t : Nat} {s : Nat × Nat} (h : l[t]? = some s) : (l.take (t + 1)).getLast? = some s := by
 have ht := (List.getElem?_eq_some_iff.1 h).1
 rw [List.take_succ_eq_append_getElem ht]
 have := (List.getElem?_eq_some_iff.1 h).2
 simp [this]
set_option maxHeartbeats 8000000 in
theorem traitOf_any (base tb sb : Nat) (a0 a1 a2 a3 vrows vfin vcls vpts vm vmem : Value) (l : List SRow) (bs : List Bool) (cl : List Int) (q : Nat) (u : Value) (rs : List (Nat × Nat)) (Tr : List (Int × Nat × Nat)) (G : List Mng) (W : World)
  (hq : q < l.length) (hl : l[q]? = some (u, rs)) (hbq : bs.length = l.length) (hcl : cl.length = l.length) (hn : l.length ≤ 1114112) (hrs : ∀ s ∈ rs, s.1 ≤ 1048576 ∧ s.2 < l.length) (hrl : rs.length ≤ 31) (hcb : ∀ z ∈ cl, 0 ≤ z ∧ z ≤ 1114112)
  (hT : TabS W base tb a0 a1 a2 a3 vrows vfin vcls vpts l bs cl) (hS : SetAt keyT W base sb vm vmem Tr) (hTr : TrOK Tr G) (hTl : Tr.length ≤ 1099511627776) (hbase : base ≤ W.heap.size) :
  Calls Tryd.prog 114 #[.pointer (some ⟨tb, 0, none⟩), .int .i64 (q : Int), .pointer (some ⟨sb, 0, none⟩)] W (TrPost W base sb vm vmem Tr G (bs.getD q false, squeeze (kapN cl) none rs) rs.length) := by
 have HT := hidd hT
 have HS := hidd hS
 have HTr := hidd hTr
 have HRS := hidd hrs
 have HLq := hidd hl
 have HCB := hidd hcb
 obtain ⟨g1, c1, hv1⟩ := own_posk hT.rows.row (by omega)
 obtain ⟨g2, c2, hv2⟩ := own_posk hT.fin (by omega)
 obtain ⟨g3, c3, hv3⟩ := own_posk hT.cls (by omega)
 subst hv1
 subst hv2
 subst hv3
 have b1 := blkc hT.box 4
 have b2 := blkc hT.box 5
 have b3 := blkc hT.box 6
 have hu := hT.rows.each _ (List.mem_of_getElem? hl)
 have x1 : W.cell? ⟨g1, q, none⟩ = some u := own_cellk hT.rows.row (by rw [List.getElem?_map, hl]; rfl)
 have x2 : W.cell? ⟨g2, q, none⟩ = some (.bool (bs.getD q false)) := own_cellk hT.fin (by rw [List.getElem?_map, List.getD_eq_getElem?_getD, List.getElem?_eq_getElem (by omega)]; rfl)
 have hqz : (q : Int) < (l.length : Int) := by omega
 have hqb : (q : Int) < (bs.length : Int) := by omega
 have hqbn : q < bs.length := by omega
 obtain ⟨au, cu, hvu⟩ := own_slk hu
 dsimp only at hu hvu
 subst hvu
 have HU := hidd hu
 have HBQ := hidd hbq
 have HCL := hidd hcl
 clear hT hS hTr hrs hcb hl hu hbq hcl
 generalize bs.getD q false = fq at *
 go_enter Tryd.func114, Tryd.ntmps114
 go_upto_if 18 with fail
 go_cut [7, 8] (fun nv lv wx => nv = .int .i64 (if fq = true then -2 else -1) ∧ lv = .int .i64 (-1) ∧ wx = W)
 case first =>
  cases fq with
  | true =>
   go_wp2_with fail
   go_meet
   case rel => exact ⟨rfl, rfl, rfl⟩
  | false =>
   go_wp2_with fail
   go_meet
   case rel => exact ⟨rfl, rfl, rfl⟩
 case rest =>
  obtain ⟨rfl, rfl, hw⟩ := hcut
  obtain rfl := hw.symm
  have HM0 : Hid (NumOK G (if fq = true then -2 else -1) ∧ mean G (if fq = true then -2 else -1) = (fq, squeeze (kapN cl) none (rs.take 0))) := by
   cases fq with
   | true => exact ⟨Or.inr (Or.inl rfl), rfl⟩
   | false => exact ⟨Or.inl rfl, rfl⟩
  generalize (if fq = true then (-2 : Int) else -1) = z0 at *
  go_wp2_with fail
  go_loopw [27, 7, 8] (fun jv nv lv wx => ∃ (t : Nat) (a : Int) (vm' vmem' : Value) (Tr' : List (Int × Nat × Nat)) (G' : List Mng), t ≤ rs.length ∧ jv = .int .i64 (t : Int) ∧ nv = .int .i64 a ∧ lv = .int .i64 (lastZ ((rs.take t).getLast?.map fun s => kapN cl s.2)) ∧ TabS wx base tb a0 a1 a2 a3 (.slice (some ⟨g1, 0, none⟩) l.length c1) (.slice (some ⟨g2, 0, none⟩) bs.length c2) (.slice (some ⟨g3, 0, none⟩) cl.length c3) vpts l bs cl ∧ SetAt keyT wx base sb vm' vmem' Tr' ∧ TrOK Tr' G' ∧ (∃ r, G' = G ++ r) ∧ NumOK G' a ∧ mean G' a = (fq, squeeze (kapN cl) none (rs.take t)) ∧ Tr'.length ≤ Tr.length + t ∧ But (SetB sb vm vmem) W wx ∧ (∀ b, SetB sb vm' vmem' b → SetB sb vm vmem b ∨ W.heap.size ≤ b)) (fun jv _ _ _ => rs.length - (intOf jv).toNat)
  case atStart => exact ⟨0, z0, vm, vmem, Tr, G, Nat.zero_le _, rfl, rfl, rfl, HT.out, HS.out, HTr.out, ⟨[], by simp⟩, HM0.out.1, HM0.out.2, Nat.le_refl _, But.refl _ _, fun b hb => Or.inl hb⟩
  case round =>
   clear HT HS HTr HM0 b1 b2 b3 x1 x2
   obtain ⟨t, a, vm', vmem', Tr', G', ht, rfl, rfl, rfl, hT, hS, hTr, hpre, hnum, hmean, hlen, hbut, hat⟩ := hrel
   have HT := hidd hT
   have HS := hidd hS
   have HTr := hidd hTr
   have HP : Hid ((∃ r, G' = G ++ r) ∧ NumOK G' a ∧ mean G' a = (fq, squeeze (kapN cl) none (rs.take t))) := ⟨hpre, hnum, hmean⟩
   have HBt := hidd hbut
   have HAt := hidd hat
   have hTl' := hlen
   by_cases hlt : t < rs.length
   ·have hltz : (t : Int) < (rs.length : Int) := by omega
    obtain ⟨sx, hsx⟩ : ∃ s, rs[t]? = some s := ⟨_, List.getElem?_eq_getElem hlt⟩
    have hsb := HRS.out sx (List.mem_of_getElem? hsx)
    have hrow : wr.ownsRow base 164 2 (.slice au rs.length cu) rs.length (strCells rs) := by
     have := hT.rows.each _ (List.mem_of_getElem? HLq.out)
     exact this
    obtain ⟨gu, cu', hvu⟩ := own_posk hrow (by omega)
    simp only [Value.slice.injEq, true_and] at hvu
    obtain ⟨rfl, rfl⟩ := hvu
    have y0 := own_cellk hrow (str_at rs t sx hsx).1
    have y1 := own_cellk hrow (str_at rs t sx hsx).2
    have hc2 : sx.2 < cl.length := by rw [HCL.out]; exact hsb.2
    have hc2z : (sx.2 : Int) < (cl.length : Int) := by omega
    have hcz : cl.getD sx.2 0 = ((kapN cl sx.2 : Nat) : Int) ∧ kapN cl sx.2 ≤ 1114112 := by
     have h1 := HCB.out (cl.getD sx.2 0) (by rw [List.getD_eq_getElem?_getD, List.getElem?_eq_getElem hc2]; exact List.getElem_mem hc2)
     unfold kapN
     omega
    have y3 : wr.cell? ⟨g3, sx.2, none⟩ = some (.int .i64 ((kapN cl sx.2 : Nat) : Int)) := own_cellk hT.cls (by
     unfold zI
     rw [List.getElem?_map, List.getElem?_eq_getElem hc2, ← hcz.1, List.getD_eq_getElem?_getD, List.getElem?_eq_getElem hc2]; rfl)
    have hcc := hcz.2
    have HTake : Hid (rs.take (t + 1) = rs.take t ++ [sx]) := by
     show _ = _
     rw [List.take_succ_eq_append_getElem hlt, (List.getElem?_eq_some_iff.1 hsx).2]
    have HLt : Hid ((rs.take (t + 1)).getLast?.map (fun s => kapN cl s.2) = some (kapN cl sx.2)) := by show _ = _; rw [last_take hsx]; rfl
    have HSq : Hid (squeeze (kapN cl) none (rs.take (t + 1)) = squeeze (kapN cl) none (rs.take t) ++ (if ((rs.take t).getLast?.map fun s => kapN cl s.2) = some (kapN cl sx.2) then [] else [(sx.1, kapN cl sx.2)])) := by
     show _ = _
     rw [HTake.out, squeeze_snoc, Option.or_none]
    have hneq := lastZ_eq ((rs.take t).getLast?.map fun s => kapN cl s.2) (kapN cl sx.2)
    generalize ((rs.take t).getLast?.map fun s => kapN cl s.2) = o at *
    generalize kapN cl sx.2 = c at *
    have HW2 := hidd (hT.below ((Below.refl wr.heap.size wr).alloc (Nat.le_refl _) (.cells #[.int .i64 (sx.1 : Int), .int .i64 (sx.2 : Int)] 164)))
    have HS2 := hidd (hS.below ((Below.refl wr.heap.size wr).alloc (Nat.le_refl _) (.cells #[.int .i64 (sx.1 : Int), .int .i64 (sx.2 : Int)] 164)))
    have hnbx : (wr.alloc (.cells #[.int .i64 (sx.1 : Int), .int .i64 (sx.2 : Int)] 164)).heap[wr.heap.size]? = some (.cells #[.int .i64 (sx.1 : Int), .int .i64 (sx.2 : Int)] 164) := heap_alloc_new _ _
    have HBt2 := hidd (hbut.alloc (.cells #[.int .i64 (sx.1 : Int), .int .i64 (sx.2 : Int)] 164))
    have y3' := ((Below.refl wr.heap.size wr).alloc (Nat.le_refl _) (.cells #[.int .i64 (sx.1 : Int), .int .i64 (sx.2 : Int)] 164)).cell (p := ⟨g3, sx.2, none⟩) (cell_lt y3)
    rw [y3] at y3'
    clear hT hS hTr hpre hnum hmean hbut hat hrow hcz hc2z hsx HT HS HBt
    go_upto_region 7 with fail
    clear y0 y1 y3
    generalize wr.alloc (.cells #[.int .i64 (sx.1 : Int), .int .i64 (sx.2 : Int)] 164) = W2 at *
    have z6 := blkc HW2.out.box 6
    have n0 := blkc hnbx 0
    have n1 := blkc hnbx 1
    have hc2z : (sx.2 : Int) < (cl.length : Int) := by omega
    by_cases ho : o = some c
    ·have hne : ((c : Int) != lastZ o) = false := by rw [hneq]; simp [ho]
     have HLo : Hid (lastZ o = lastZ (some c)) := by show _ = _; rw [ho]
     have HSq2 : Hid (squeeze (kapN cl) none (rs.take (t + 1)) = squeeze (kapN cl) none (rs.take t)) := by show _ = _; rw [HSq.out, if_pos ho, List.append_nil]
     clear ho hneq
     generalize lastZ o = lz at *
     go_quiet (fail)
     have hbq : Below W2.heap.size W2 (W2.drewN nq) := ⟨rfl, rfl, rfl, Nat.le_refl _, fun _ _ => rfl⟩
     have HW3 := hidd (HW2.out.below hbq)
     have HS3 := hidd (HS2.out.below hbq)
     have HBt3 := hidd (HBt2.out.drewN nq)
     clear hbq z6 n0 n1 y3' hnbx
     go_wp2_with fail
     go_roundw
     case rel => exact ⟨t + 1, a, vm', vmem', Tr', G', by omega, by go_num, rfl, by rw [HLt.out, HLo.out], HW3.out, HS3.out, HTr.out, HP.out.1, HP.out.2.1, by rw [HSq2.out]; exact HP.out.2.2, by omega, HBt3.out, HAt.out⟩
     case measure => simp [intOf]; omega
    ·have hne : ((c : Int) != lastZ o) = true := by rw [hneq]; simp [ho]
     have HSq2 : Hid (squeeze (kapN cl) none (rs.take (t + 1)) = squeeze (kapN cl) none (rs.take t) ++ [(sx.1, c)]) := by show _ = _; rw [HSq.out, if_neg ho]
     have hab : -2 ≤ a ∧ a ≤ 2199023255552 := by
      have h1 := HTr.out.len
      rcases HP.out.2.1 with h | h | h <;> omega
     clear ho hneq
     generalize lastZ o = lz at *
     go_quiet (fail)
     have hbq : Below W2.heap.size W2 (W2.drewN nq) := ⟨rfl, rfl, rfl, Nat.le_refl _, fun _ _ => rfl⟩
     have HW3 := hidd (HW2.out.below hbq)
     have HS3 := hidd (HS2.out.below hbq)
     have HBt3 := hidd (HBt2.out.drewN nq)
     have n0' := blkc (blko hnbx hbq) 0
     clear hbq z6 n0 n1 y3' hnbx
     generalize W2.drewN nq = W3 at *
     go_wp2_with fail
     refine (placeT_any base sb vm' vmem' Tr' (a, sx.1, c) _ ⟨⟨by show _ ≤ a; omega, by show a ≤ _; omega⟩, by show sx.1 ≤ _; omega, by show c ≤ _; omega⟩ (by omega) (Nat.le_trans hbase HBt3.out.size) HS3.out).mono ?_
     rintro e w4 ⟨rfl, vm4, vmem4, hs4, hbut4, hat4, hat4'⟩
     have HG : Hid (∃ G4, TrOK (meet Tr' (a, sx.1, c)) G4 ∧ (∃ r, G4 = G ++ r) ∧ NumOK G4 ((ix (meet Tr' (a, sx.1, c)) (a, sx.1, c) : Nat) : Int) ∧ mean G4 ((ix (meet Tr' (a, sx.1, c)) (a, sx.1, c) : Nat) : Int) = (fq, squeeze (kapN cl) none (rs.take (t + 1))) ∧ (meet Tr' (a, sx.1, c)).length ≤ Tr.length + (t + 1)) := by
      obtain ⟨⟨r, hr⟩, hn1, hm1⟩ := HP.out
      by_cases hm : (a, sx.1, c) ∈ Tr'
      ·have hix := ix_at hm
       obtain ⟨h1, h2⟩ := HTr.out.found hix
       rw [meet_old hm]
       refine ⟨G', HTr.out, ⟨r, hr⟩, h1, ?_, by omega⟩
       rw [h2, HSq2.out]
       show ((mean G' a).1, (mean G' a).2 ++ [(sx.1, c)]) = _
       rw [hm1]
      ·rw [meet_fresh hm, ix_new hm]
       refine ⟨_, HTr.out.push (t := (a, sx.1, c)) hn1 hm, ⟨r ++ [((mean G' a).1, (mean G' a).2 ++ [(sx.1, c)])], by rw [hr, List.append_assoc]⟩, (mean_new HTr.out _).1, ?_, by rw [List.length_append]; simp; omega⟩
       rw [(mean_new HTr.out _).2, HSq2.out]
       show ((mean G' a).1, (mean G' a).2 ++ [(sx.1, c)]) = _
       rw [hm1]
     have HW4 := hidd (HW3.out.setT HS3.out hbut4)
     have HS4 := hidd hs4
     have HBt4 : Hid (But (SetB sb vm vmem) W w4) := by
      refine ⟨hbut4.os.trans HBt3.out.os, hbut4.tape.trans HBt3.out.tape, hbut4.output.trans HBt3.out.output, Nat.le_trans HBt3.out.size hbut4.size, fun b hb hnB => ?_⟩
      rw [hbut4.block b (Nat.lt_of_lt_of_le hb HBt3.out.size) (fun hB => ?_), HBt3.out.block b hb hnB]
      rcases HAt.out b hB with h1 | h1
      ·exact hnB h1
      ·omega
     have HAt4 : Hid (∀ b, SetB sb vm4 vmem4 b → SetB sb vm vmem b ∨ W.heap.size ≤ b) := by
      intro b hB
      have hsz := HBt3.out.size
      rcases hB with e | e | e
      ·exact Or.inl (Or.inl e)
      ·rcases hat4' b e with h1 | h1
       ·exact HAt.out b (Or.inr (Or.inl h1))
       ·exact Or.inr (by omega)
      ·rcases hat4 b e with h1 | h1
       ·exact HAt.out b (Or.inr (Or.inr h1))
       ·exact Or.inr (by omega)
     generalize meet Tr' (a, sx.1, c) = Tr4 at *
     generalize ix Tr4 (a, sx.1, c) = i4 at *
     obtain ⟨G4, hg1, hg2, hg3, hg4, hg5⟩ := HG.out
     have HG4 : Hid (TrOK Tr4 G4 ∧ (∃ r, G4 = G ++ r) ∧ NumOK G4 (i4 : Int) ∧ mean G4 (i4 : Int) = (fq, squeeze (kapN cl) none (rs.take (t + 1))) ∧ Tr4.length ≤ Tr.length + (t + 1)) := ⟨hg1, hg2, hg3, hg4, hg5⟩
     clear hs4 hbut4 hat4 hat4' HG hg1 hg2 hg3 hg4 hg5 n0' HW3 HS3 HBt3
     go_wp2_with fail
     go_roundw
     case rel => exact ⟨t + 1, (i4 : Int), vm4, vmem4, Tr4, G4, by omega, by go_num, rfl, by rw [HLt.out]; rfl, HW4.out, HS4.out, HG4.out.1, HG4.out.2.1, HG4.out.2.2.1, HG4.out.2.2.2.1, HG4.out.2.2.2.2, HBt4.out, HAt4.out⟩
     case measure => simp [intOf]; omega
   ·have hltz : ¬ (t : Int) < (rs.length : Int) := by omega
    obtain rfl : t = rs.length := by omega
    have HFin : Hid (TrPost W base sb vm vmem Tr G (fq, squeeze (kapN cl) none rs) rs.length (.returned (.int .i64 a)) wr) := ⟨a, vm', vmem', Tr', G', rfl, hS, hTr, hpre, hnum, by rw [hmean, List.take_length], hlen, hbut, hat⟩
    clear hT hS hTr hpre hnum hmean hbut hat HT HS HTr HP HBt HAt
    go_wp2_with fail
    go_ret
    exact HFin.out
end Go.Proofs.YtoinajfliogcdaaDoor
