import Derived.Test.YtkbjimkngmlfcaaDoorSetsJ12
open Go renaming Value→aab,World→aah,heap_alloc_new→aar,info_parts→aaw,wp_region_held→aaA,frozen_of_row→aav
open Go.RowKit renaming Below→aal
open Go.RowKit.Below renaming heap_alloc→aap,refl→aat
open Go.World renaming size_alloc→aax
open Nat renaming le_refl→aas
namespace Go.Proofs.YtkbjimkngmlfcaaDoor
open Go Go.RowKit
set_option linter.unusedVariables false
set_option linter.unusedSimpArgs false
set_option maxRecDepth 100000
set_option maxHeartbeats 8000000
abbrev uy(pa pb:Nat) :aab:= .func (.func 35) #[] #[.pointer (some ⟨pa,0,none⟩),.pointer (some ⟨pb,0,none⟩)]
abbrev ru(pc pa pb:Nat) :aab:= .func (.func 37) #[] #[.pointer (some ⟨pc,0,none⟩),.pointer (some ⟨pa,0,none⟩),.pointer (some ⟨pb,0,none⟩)]
abbrev BM(s:Int×Int)(fo fi:aab) :Array aab:=#[.int .i64 s.1,.int .i64 s.2,fo,fi,.int .i64 9223372036854775807]
theorem YH(w:aah)(cw:Array aab)(a0 a1 a2 a3:aab) :(((w.alloc (.cells cw 71)).alloc (.cells #[a0,a1,a2,a3] 74)).alloc (.cells #[aJ,aJ,aJ,aJ,aJ,aJ,aJ,aJ] 93)).heap[w.heap.size+1]?=some (.cells #[a0,a1,a2,a3] 74)∧Tb w (((((w.alloc (.cells cw 71)).alloc (.cells #[a0,a1,a2,a3] 74)).alloc (.cells #[aJ,aJ,aJ,aJ,aJ,aJ,aJ,aJ] 93)).alloc (.cells #[a0,a1,a2,a3,aJ,aJ,aJ,aJ] 93)).alloc (.cells #[.map none,aJ] 125)) cw #[a0,a1,a2,a3] a0 a1 a2 a3 aJ aJ (.map none) aJ [] [] :=by
 generalize hA:Obj.cells cw 71=A;generalize hB:Obj.cells #[a0,a1,a2,a3] 74=B;generalize hC:Obj.cells #[aJ,aJ,aJ,aJ,aJ,aJ,aJ,aJ] 93=C;generalize hD:Obj.cells #[a0,a1,a2,a3,aJ,aJ,aJ,aJ] 93=D;have z1:(w.alloc A).heap.size=w.heap.size+1:=by simp
 have z2:((w.alloc A).alloc B).heap.size=w.heap.size+2:=by rw[aax,z1]
 have z3:(((w.alloc A).alloc B).alloc C).heap.size=w.heap.size+3:=by rw[aax,z2]
 have z4:((((w.alloc A).alloc B).alloc C).alloc D).heap.size=w.heap.size+4:=by rw[aax,z3]
 refine⟨?_,?_,?_,?_,?_,?_,World.ownsRow_nil _ _ _ _,?_⟩;·rw[aap _ _ _ (by rw[z2];omega),←z1];exact aar _ _
 ·rw[aap _ _ _ (by rw[z4];omega),aap _ _ _ (by rw[z3];omega),aap _ _ _ (by rw[z2];omega),aap _ _ _ (by rw[z1];omega),hA];exact aar _ _
 ·rw[aap _ _ _ (by rw[z4];omega),aap _ _ _ (by rw[z3];omega),aap _ _ _ (by rw[z2];omega),←z1,hB];exact aar _ _
 ·rw[aap _ _ _ (by rw[z4];omega),aap _ _ _ (by rw[z3];omega),←z2,hC];exact aar _ _
 ·rw[aap _ _ _ (by rw[z4];omega),←z3,hD];exact aar _ _
 ·have:=qz (K:=fV) ((((w.alloc A).alloc B).alloc C).alloc D) w.heap.size;rw[z4]at this;exact this
 ·exact(((((aat _ _).alloc (aas _) _).alloc (by rw[z1];omega) _).alloc (by rw[z2];omega) _).alloc (by rw[z3];omega) _).alloc (by rw[z4];omega) _
theorem Tryd.infoStrS:(Tryd.prog.info? 127).map (fun i=>(i.zero,i.size,i.bytes))=some (some (.slice none 0 0),1,24) :=by kernel_rfl
theorem Tryd.infoStr:(Tryd.prog.info? 129).map (fun i=>(i.zero,i.size,i.bytes))=some (some (.agg #[.int .i64 0,.int .i64 0]),2,16) :=by kernel_rfl
theorem Uh {W:aah} {b:Nat} {x0 x1 x2 x3 x4 x5 x6 x7:aab} {t:TypeId}(h:W.heap[b]?=some (.cells #[x0,x1,x2,x3,x4,x5,x6,x7] t))(y0 y1 y2 y3 y4 y5 y6 y7:aab) :((((((((W.setCell ⟨b,0,none⟩ y0).setCell ⟨b,1,none⟩ y1).setCell ⟨b,2,none⟩ y2).setCell ⟨b,3,none⟩ y3).setCell ⟨b,4,none⟩ y4).setCell ⟨b,5,none⟩ y5).setCell ⟨b,6,none⟩ y6).setCell ⟨b,7,none⟩ y7).heap[b]?=some (.cells #[y0,y1,y2,y3,y4,y5,y6,y7] t) :=by have h1:=aL (aL (aL (aL (aL (aL (aL (aL h 0 y0) 1 y1) 2 y2) 3 y3) 4 y4) 5 y5) 6 y6) 7 y7;simpa using h1
def Vw(K:bN (Int×Int))(x0:Int×Int)(S:Nat)(a0 a1 a2 a3:aab)(w:aah)(e:Ending)(w':aah) :Prop:=∃aV bC Z aB bs l,e= .returned (.tuple #[.agg #[a0,a1,a2,a3,aV,bC,aJ,aJ],.int .i64 0])∧jL K S x0 Z.length Z aB bs∧l.map (·.2)=aB.map runs∧jW w' w.heap.size aV l∧w'.ownsRow w.heap.size 4 1 bC bs.length (bs.map Value.bool)∧aal w.heap.size w w'∧Z.length≤1114112
def ad4(K:bN (Int×Int))(P:Int×Int→Prop)(S:Nat)(sm:List Int)(pa pb:Nat)(w:aah) :Prop:=∀(s:Int×Int)(j:Nat)(W:aah),aal w.heap.size w W→P s→j<S→Calls Tryd.prog 35 #[.agg (kW s.1 s.2),.int .i64 (sm.getD j 0),.pointer (some ⟨pa,0,none⟩),.pointer (some ⟨pb,0,none⟩)] W fun e w'=>e= .returned (.agg (kW (K.step s j).1 (K.step s j).2))∧aal W.heap.size W w'
def aee(K:bN (Int×Int))(P:Int×Int→Prop)(pc pa pb:Nat)(w:aah) :Prop:=∀(s:Int×Int)(W:aah),aal w.heap.size w W→P s→Calls Tryd.prog 37 #[.agg (kW s.1 s.2),.pointer (some ⟨pc,0,none⟩),.pointer (some ⟨pa,0,none⟩),.pointer (some ⟨pb,0,none⟩)] W fun e w'=>e= .returned (.bool (K.fin s))∧aal W.heap.size W w'
theorem Nr (a0 a1 a2 a3 : aab) (K : bN (Int × Int)) (P : Int × Int → Prop) (x0 : Int × Int) (S pa pb pc : Nat) (sm : List Int) (w : aah) (hS0 : 1 ≤ S) (pR : S ≤ 1000) (hsm : sm.length = S) (hpr : Wu K P S) (hp0 : P x0) (hfo : ad4 K P S sm pa pb w) (hfi : aee K P pc pa pb w) (h2 : bD w a2 sm) (h0 : ∃ ad n c, a0 = .slice ad n c) (h1 : ∃ ad n c, a1 = .slice ad n c) (h3 : ∃ ad n c, a3 = .slice ad n c) :
    Calls Tryd.prog 55 #[.agg (BM x0 (uy pa pb) (ru pc pa pb)), .agg #[a0, a1, a2, a3]] w (Vw K x0 S a0 a1 a2 a3 w) := by
  have HFO := ah hfo
  have HFI := ah hfi
  have ug := ah hpr
  have HX0 := ah hp0
  clear hfo hfi hpr hp0
  obtain ⟨is, his, hs0, hs1, hs2⟩ := aaw Tryd.infoStr
  obtain ⟨ir, hir, hr0, hr1, hr2⟩ := aaw Tryd.infoStrS
  obtain ⟨ib, hib, hb0, hb1, hb2⟩ := aaw Tryd.infoBoolN
  have H2 := ah h2
  obtain ⟨ad0, n0, c0, rfl⟩ := h0
  obtain ⟨kM, n1, c1, rfl⟩ := h1
  obtain ⟨lg, n3, c3, rfl⟩ := h3
  obtain ⟨kJ, c2, rfl⟩ : ∃ ad c, a2 = .slice ad S c := by
    obtain ⟨ad, c, h, _⟩ := h2
    exact ⟨ad, c, by rw [h, hsm]⟩
  have qp := ah hsm
  clear h2 hsm
  have hS := YH w (BM x0 (uy pa pb) (ru pc pa pb)) (.slice ad0 n0 c0) (.slice kM n1 c1) (.slice kJ S c2) (.slice lg n3 c3)
  have HS := ah hS.2
  have b0 := aj hS.1 0
  have b1 := aj hS.1 1
  have b2 := aj hS.1 2
  have b3 := aj hS.1 3
  clear hS
  go_enter Tryd.func55, Tryd.ntmps55
  go_wp2_with fail
  go_step3
  go_upto_region 3 with fail
  clear b0 b1 b2 b3
  obtain ⟨W2, hW2⟩ : ∃ W2, W2 = (((((w.alloc (.cells (BM x0 (uy pa pb) (ru pc pa pb)) 71)).alloc (.cells #[.slice ad0 n0 c0, .slice kM n1 c1, .slice kJ S c2, .slice lg n3 c3] 74)).alloc (.cells #[aJ, aJ, aJ, aJ, aJ, aJ, aJ, aJ] 93)).alloc (.cells #[.slice ad0 n0 c0, .slice kM n1 c1, .slice kJ S c2, .slice lg n3 c3, aJ, aJ, aJ, aJ] 93)).alloc (.cells #[.map none, aJ] 125)) := ⟨_, rfl⟩
  rw [← hW2] at HS ⊢
  clear hW2
  have e0 := aj HS.out.wb 0
  have e1 := aj HS.out.wb 1
  go_wp2_with fail
  refine (F8 w.heap.size (w.heap.size + 4) (.map none) aJ [] x0 _ (ug.out.key _ HX0.out) (by simp) HS.out.bel.size HS.out.set).mono ?_
  rintro e w1 ⟨rfl, Dr, kP, hs1, xX, EK, ajq⟩
  rw [show meet ([] : List (Int × Int)) x0 = [x0] from rfl] at hs1
  have HT := ah (HS.out.placed hs1 xX)
  have HR : Hid (jW w1 w.heap.size aJ []) := jW.nil _ _
  clear hs1 xX EK ajq e0 e1 HS
  have HG : Hid (jL K S x0 0 [x0] [] []) := jL.zero _ _ _
  have HNr : Hid (∀ z ∈ [x0], P z) := fun z hz' => by rw [List.mem_singleton.1 hz']; exact HX0.out
  go_wp2_with fail
  go_loopw [8] (fun iv wx => ∃ (i : Nat) (Z : List (Int × Int)) (aB : List (List Nat)) (bs : List Bool) (l : List gT) (aV bC vm aI : aab), iv = .int .i64 (i : Int) ∧ Tb w wx (BM x0 (uy pa pb) (ru pc pa pb)) #[.slice ad0 n0 c0, .slice kM n1 c1, .slice kJ S c2, .slice lg n3 c3] (.slice ad0 n0 c0) (.slice kM n1 c1) (.slice kJ S c2) (.slice lg n3 c3) aV bC vm aI Z bs ∧ jW wx w.heap.size aV l ∧ jL K S x0 i Z aB bs ∧ l.map (·.2) = aB.map runs ∧ (∀ z ∈ Z, P z)) (fun iv _ => 1114113 - (intOf iv).toNat)
  case atStart => exact ⟨0, [x0], [], [], [], _, _, _, _, rfl, HT.out, HR.out, HG.out, rfl, HNr.out⟩
  case round =>
    clear HT HR HG HNr
    obtain ⟨i, Z, aB, bs, l, aV, bC, vm, aI, rfl, hT, hR, hG, hL, hN⟩ := hrel
    have HT := ah hT
    have HR := ah hR
    have HG := ah hG
    have HL := ah hL
    have HN := ah hN
    have hZ : Z.length ≤ 1114112 := ug.out.few _ hG.nodup hN
    have hiZ := hG.le
    obtain ⟨adm, cpm, rfl⟩ := iK hT.set.row
    have s1 := aj hT.set.box 1
    clear hL hN hR
    by_cases hlt : i < Z.length
    · have hltz : (i : Int) < (Z.length : Int) := by omega
      obtain ⟨x, hx⟩ : ∃ x, Z[i]? = some x := ⟨_, List.getElem?_eq_getElem hlt⟩
      have HXg : Hid (Z.getD i x0 = x) := by show _ = _; rw [List.getD_eq_getElem?_getD, hx]; rfl
      have JU := ah (HN.out x (List.mem_of_getElem? hx))
      obtain ⟨gm, cm, hvm, m0, m1⟩ := Ld hT.set hx
      simp only [Value.slice.injEq, true_and] at hvm
      obtain ⟨rfl, rfl⟩ := hvm
      have HI0 : Hid (Cn w (wr.alloc (.cells (kW x.1 x.2) 66)) (BM x0 (uy pa pb) (ru pc pa pb)) #[.slice ad0 n0 c0, .slice kM n1 c1, .slice kJ S c2, .slice lg n3 c3] (.slice ad0 n0 c0) (.slice kM n1 c1) (.slice kJ S c2) (.slice lg n3 c3) aV bC vm (.slice (some ⟨gm, 0, none⟩) Z.length cpm) Z bs l wr.heap.size x aJ []) := by
        have hb : aal wr.heap.size wr (wr.alloc (.cells (kW x.1 x.2) 66)) := (aat _ _).alloc (aas _) _
        exact ⟨hT.below hb, (HR.out.congr fun b cs t _ _ hh => aC hh hb).start, aar _ _, fun b hB => by have := (hT.set.blk hB).1; omega, hT.bel.size⟩
      have HIZ : Hid (Z[i]? = some x) := hx
      clear hT hG hx
      go_upto_region 8 with fail
      generalize hW3 : wr.alloc (.cells (kW x.1 x.2) 66) = W3 at *
      generalize wr.heap.size = fb at *
      clear hW3 m0 m1 s1
      have q2 := aj HI0.out.t.ab 2
      have qH : Hid (∀ z ∈ aS K Z x 0, P z) := HN.out
      go_wp2_with fail
      go_loopw [34, 10] (fun jv rv wx => ∃ (j : Nat) (vr dF bG : aab), j ≤ S ∧ jv = .int .i64 (j : Int) ∧ rv = vr ∧ Cn w wx (BM x0 (uy pa pb) (ru pc pa pb)) #[.slice ad0 n0 c0, .slice kM n1 c1, .slice kJ S c2, .slice lg n3 c3] (.slice ad0 n0 c0) (.slice kM n1 c1) (.slice kJ S c2) (.slice lg n3 c3) aV bC dF bG (aS K Z x j) bs l fb x vr (jK K Z x j) ∧ (∀ z ∈ aS K Z x j, P z)) (fun jv _ _ => S - (intOf jv).toNat)
      case atStart => exact ⟨0, _, _, _, by omega, rfl, rfl, HI0.out, qH.out⟩
      case round =>
        clear HI0 qH q2
        obtain ⟨j, vr, dF, bG, hj, rfl, rfl, hI, Gc⟩ := hrel
        have HI := ah hI
        have E5 := ah Gc
        have hZj : (aS K Z x j).length ≤ 1114112 := ug.out.few _ (iW HG.out.nodup) Gc
        by_cases hjl : j < S
        · have hjz : (j : Int) < (S : Int) := by omega
          obtain ⟨g2, o2, rfl, hg2, hc2⟩ : ∃ g o, kJ = some ⟨g, o, none⟩ ∧ g < w.heap.size ∧ w.cell? ⟨g, o + j, none⟩ = some (.int .i64 (sm.getD j 0)) := by
            exact H2.out.cells (by rw [qp.out]; exact hjl)
          have r0 := (hI.t.bel.cell (p := ⟨g2, o2 + j, none⟩) hg2).trans hc2
          have w4 := aj hI.t.wb 2
          have f0 := aj hI.f 0
          have f1 := aj hI.f 1
          have hFO := HFO.out x j _ hI.t.bel JU.out hjl
          obtain ⟨y, hy⟩ : ∃ y, K.step x j = y := ⟨_, rfl⟩
          have HST := ah hy
          rw [hy] at hFO
          have HYk : Hid (P y) := by have := ug.out.step x j JU.out hjl; rw [hy] at this; exact this
          have uL := ah hFO
          clear hI Gc hc2 hy hFO
          generalize sm.getD j 0 = r at *
          go_wp2_with fail
          refine uL.out.mono ?_
          rintro e w1 ⟨rfl, hb1⟩
          have HI2 := ah ((HI.out.below hb1).below ((aat w1.heap.size w1).alloc (aas _) (.cells (kW y.1 y.2) 66)))
          have lT : Hid ((w1.alloc (.cells (kW y.1 y.2) 66)).heap[w1.heap.size]? = some (.cells (kW y.1 y.2) 66)) := aar _ _
          have HNS : Hid (∀ b, bB (w.heap.size + 4) dF bG b → b < w1.heap.size) := fun b hB => ((HI.out.below hb1).t.set.blk hB).1
          clear hb1 HI r0 w4 f0 f1 uL
          go_upto_region 13 with fail
          generalize Kq : w1.alloc (.cells (kW y.1 y.2) 66) = W4 at *
          generalize w1.heap.size = nb at *
          clear Kq
          obtain ⟨B, hB⟩ : ∃ B : Bool, (B = true ↔ ∃ i', j = i' + 1 ∧ K.step x (i' + 1) = K.step x i') := ⟨@decide (∃ i', j = i' + 1 ∧ K.step x (i' + 1) = K.step x i') (Classical.propDecidable _), by simp⟩
          have HB := ah hB
          clear hB
          go_cut [60] (fun bv wx => bv = .bool B ∧ ∃ q, wx = W4.drewN q)
          case first =>
            by_cases hj0 : j = 0
            · have hjn : ¬ (j : Int) > 0 := by omega
              have DU : Hid (B = false) := by
                show _ = _
                rw [Bool.eq_false_iff]
                intro e
                obtain ⟨i', h1, _⟩ := HB.out.1 e
                omega
              have hjd : decide (0 < j) = false := by simp [hj0]
              clear hj0 hjn
              go_quiet (fail)
              go_wp2_with fail
              go_meet
              case rel => exact ⟨by rw [DU.out], _, rfl⟩
            · obtain ⟨i', rfl⟩ : ∃ i', j = i' + 1 := ⟨j - 1, by omega⟩
              obtain ⟨sx, hs1, hs2⟩ := TT K Z x i'
              obtain ⟨p, hp, hps⟩ : ∃ p, (jK K Z x (i' + 1)).length = p + 1 ∧ (jK K Z x (i' + 1))[p]? = some sx := by
                rw [List.getLast?_eq_getElem?] at hs1
                have hlt := (List.getElem?_eq_some_iff.1 hs1).1
                exact ⟨(jK K Z x (i' + 1)).length - 1, by omega, hs1⟩
              have iJ := HI2.out.c.cur
              rw [hp] at iJ
              obtain ⟨gr, cr, rfl⟩ := dA iJ (by omega)
              have u1 := aQ iJ (tN _ p sx hps).2
              obtain ⟨gm, cm, rfl, v0, v1⟩ := Ld HI2.out.t.set hs2
              have y0 := aj lT.out 0
              have y1 := aj lT.out 1
              have z1 := aj HI2.out.t.set.box 1
              have hss : sx.2 < (aS K Z x (i' + 1)).length := (List.getElem?_eq_some_iff.1 hs2).1
              have ar1 : (sx.2 : Int) < ((aS K Z x (i' + 1)).length : Int) := by omega
              have HBv : Hid (B = decide (y = K.step x i')) := by
                show _ = _
                rw [Bool.eq_iff_iff, HB.out, ← HST.out, decide_eq_true_iff]
                refine ⟨?_, fun h => ⟨i', rfl, h⟩⟩
                rintro ⟨i'', h1, h2⟩
                obtain rfl : i' = i'' := by omega
                exact h2
              have hjd : decide (0 < i' + 1) = true := by simp
              have heq := fun W => aiX W y (K.step x i')
              have arA : p < 1001 := by have := Ea K Z x (i' + 1); omega
              have hwp : IntKind.i64.wrap (p : Int) = (p : Int) := by rw [IntKind.wrap_i64]; omega
              have hpp : ((p + 1 : Nat) : Int) - 1 = (p : Int) := by omega
              have hp1 : (p : Int) < ((p + 1 : Nat) : Int) := by omega
              clear hs1 hs2 hps hp iJ
              generalize K.step x i' = yp at *
              generalize (aS K Z x (i' + 1)).length = nz at *
              refine aaA (S := fun u => (u.cell? ⟨nb, 0, none⟩ = some (.int .i64 y.1) ∧ u.cell? ⟨nb, 1, none⟩ = some (.int .i64 y.2)) ∧ u.cell? ⟨w.heap.size + 4, 1, none⟩ = some (.slice (some ⟨gm, 0, none⟩) nz cm) ∧ u.cell? ⟨gr, p * 2 + 1, none⟩ = some (.int .i64 (sx.2 : Int)) ∧ u.cell? ⟨gm, sx.2 * 2, none⟩ = some (.int .i64 yp.1) ∧ u.cell? ⟨gm, sx.2 * 2 + 1, none⟩ = some (.int .i64 yp.2)) (by kernel_rfl) ?_
              have hSS : (fun u => (u.cell? ⟨nb, 0, none⟩ = some (.int .i64 y.1) ∧ u.cell? ⟨nb, 1, none⟩ = some (.int .i64 y.2)) ∧ u.cell? ⟨w.heap.size + 4, 1, none⟩ = some (.slice (some ⟨gm, 0, none⟩) nz cm) ∧ u.cell? ⟨gr, p * 2 + 1, none⟩ = some (.int .i64 (sx.2 : Int)) ∧ u.cell? ⟨gm, sx.2 * 2, none⟩ = some (.int .i64 yp.1) ∧ u.cell? ⟨gm, sx.2 * 2 + 1, none⟩ = some (.int .i64 yp.2)) ({ heap := W4.heap, tape := W4.tape, drawn := W4.drawn + 1, os := W4.os, output := W4.output } : aah) := ⟨⟨y0, y1⟩, z1, u1, v0, v1⟩
              try refine tn ?_
              refine tx 0 ?_ (hS := hSS)
              refine tx 1 ?_ (v := .bool true) (hS := hSS)
              refine tx 2 ?_ (hS := hSS)
              refine tx 3 ?_ (v := .agg (kW y.1 y.2)) (hS := hSS)
              refine tx 4 ?_ (hS := hSS)
              refine tx 5 ?_ (hS := hSS)
              refine tx 6 ?_ (hS := hSS)
              refine tx 7 ?_ (hS := hSS)
              refine tx 8 ?_ (hS := hSS)
              refine tx 9 ?_ (v := .int .i64 (p : Int)) (hS := hSS)
              refine wpAnyH_take (i := 10) (v := .pointer (some ⟨gr, p * 2, none⟩)) rfl (by kernel_rfl) (by kernel_rfl) (by kernel_rfl) (fun _ _ _ h => h) (Or.inl ⟨by kernel_rfl, fun W hW => RP W _ _ _ _ rfl gr p (p + 1) cr (by kernel_rfl) (by kernel_rfl) (Nat.lt_succ_self p)⟩) hSS ?_
              try refine tn ?_
              refine tx 11 ?_ (v := .pointer (some ⟨gr, p * 2 + 1, none⟩)) (hS := hSS)
              refine tx 12 ?_ (v := .int .i64 (sx.2 : Int)) (hS := hSS)
              refine wpAnyH_take (i := 13) (v := .pointer (some ⟨gm, sx.2 * 2, none⟩)) rfl (by kernel_rfl) (by kernel_rfl) (by kernel_rfl) (fun _ _ _ h => h) (Or.inl ⟨by kernel_rfl, fun W hW => Vs W _ _ _ _ rfl gm sx.2 nz cm (by kernel_rfl) (by kernel_rfl) hss⟩) hSS ?_
              try refine tn ?_
              refine tx 14 ?_ (v := .agg (kW yp.1 yp.2)) (hS := hSS)
              refine tx 15 ?_ (v := .bool (decide (y = yp))) (hS := hSS)
              refine tx 16 ?_ (v := .bool (decide (y = yp))) (hS := hSS)
              refine wpAnyH_done (by kernel_rfl) ?_ _
              clear hSS y0 y1 z1 u1 v0 v1 heq
              go_wp2_with fail
              go_meet
              case rel => exact ⟨by rw [HBv.out], 1, rfl⟩
          case rest =>
            obtain ⟨rfl, q, hq⟩ := hcut
            subst hq
            have hbq : aal W4.heap.size W4 (W4.drewN q) := ⟨rfl, rfl, rfl, aas _, fun _ _ => rfl⟩
            have UU := ah (HI2.out.below hbq)
            have VO := ah (aC lT.out hbq)
            clear hbq HI2 lT
            generalize W4.drewN q = W5 at *
            cases B with
            | true =>
              have qp : Hid (aS K Z x (j + 1) = aS K Z x j ∧ jK K Z x (j + 1) = jK K Z x j) := by
                obtain ⟨i', rfl, h2⟩ := HB.out.1 rfl
                exact Uq h2
              go_wp2_with fail
              go_roundw
              case rel => exact ⟨j + 1, _, _, _, by omega, by go_num, rfl, by rw [qp.out.1, qp.out.2]; exact UU.out, by rw [qp.out.1]; exact E5.out⟩
              case measure => simp [intOf]; omega
            | false =>
              have HNw : Hid (jK K Z x (j + 1) = jK K Z x j ++ [(j, ix (aS K Z x (j + 1)) y)]) := by
                have h1 := Yg (K := K) (x := x) (j := j) HG.out.nodup (fun i' h1 h2 => by
                  have := HB.out.2 ⟨i', h1, h2⟩
                  cases this)
                rw [HST.out] at h1
                exact h1
              have JV : Hid (meet (aS K Z x j) y = aS K Z x (j + 1)) := by
                show _ = _
                rw [nN, HST.out]
              have acG : Hid (∀ z ∈ aS K Z x (j + 1), P z) := fun z hz' => by
                rw [← JV.out] at hz'
                rcases jQ.1 hz' with h1 | h1
                · exact E5.out z h1
                · rw [h1]; exact HYk.out
              have aru : (aS K Z x (j + 1)).length ≤ 1114112 := ug.out.few _ (iW HG.out.nodup) acG.out
              have y0 := aj VO.out 0
              have y1 := aj VO.out 1
              go_wp2_with fail
              refine (F8 w.heap.size (w.heap.size + 4) dF bG (aS K Z x j) y _ (ug.out.key _ HYk.out) (by omega) UU.out.t.bel.size UU.out.t.set).mono ?_
              rintro e w6 ⟨rfl, vm6, PM, hs6, iH, mY, xe⟩
              rw [JV.out] at hs6
              rw [JV.out]
              have Zg := UU.out.placed hs6 iH mY xe
              have HI6 := ah Zg
              have Pf := ah Zg.c.cur
              have anf := Zg.t.bel.size
              have hrl := Ea K Z x j
              have HIX : Hid (ix (aS K Z x (j + 1)) y = ix (aS K Z x (j + 1)) y) := rfl
              generalize ix (aS K Z x (j + 1)) y = t at *
              clear hs6 iH mY xe Zg UU VO y0 y1
              go_wp2_with (at_builtin; refine nC rfl _ _ 127 129 rfl is (.agg #[.int .i64 0, .int .i64 0]) 2 16 Tryd.underlying127 his hs0 hs1 hs2 rfl (by decide) w.heap.size _ _ _ rfl Pf.out #[.int .i64 (j : Int), .int .i64 (t : Int)] rfl (by intro y' hy'; simp at hy'; rcases hy' with rfl | rfl <;> rfl) rfl (by omega) (by decide) anf ?_)
              intro v7 w7 ho7 ajm Kb am4
              obtain ⟨g7, c7, rfl⟩ : ∃ g c, v7 = .slice (some ⟨g, 0, none⟩) ((jK K Z x j).length + 1) c := dA ho7 (by omega)
              have OU := HI6.out.push (p := (j, t)) ajm ho7 Kb
              rw [← HNw.out] at OU
              have HI7 := ah OU
              obtain ⟨adz, cpz, rfl⟩ := iK OU.t.set.row
              have z1 := aj OU.t.set.box 1
              have z7 := aj OU.t.wb 4
              clear ho7 ajm Kb am4 OU HI6 Pf
              generalize hnz : (aS K Z x (j + 1)).length = nz at *
              have hnm : ¬ (nz : Int) > 9223372036854775807 := by omega
              go_wp2_with fail
              go_roundw
              case rel => exact ⟨j + 1, _, _, _, by omega, by go_num, rfl, HI7.out, acG.out⟩
              case measure => simp [intOf]; omega
        · have hjz : ¬ (j : Int) < (S : Int) := by omega
          obtain rfl : S = j := by omega
          obtain ⟨gX, FK, Ik⟩ := iK hI.c.cur
          obtain ⟨EW, Gp, hvl⟩ := iK hI.c.rows.row
          obtain ⟨gM, nS, tL⟩ := iK hI.t.fin
          subst Ik
          subst hvl
          subst tL
          have hlen : l.length = i := by
            have h1 := congrArg List.length HL.out
            rw [List.length_map, List.length_map, HG.out.uE] at h1
            exact h1
          have hbl : bs.length = i := HG.out.mH
          have t4 := aj hI.t.tb 4
          have Tf := fun j => aav _ _ j _ _ hI.t.tb
          have Zv := ah hI.c.rows.row
          have anU := hI.t.bel.size
          have hrl := Ea K Z x S
          have anv : (l.length + 1) * 24 ≤ 140737488355328 := by rw [hlen]; omega
          have mV := ah hbl
          clear hI Gc hlen hbl
          go_upto_region 17 with fail
          go_wp2_with (at_builtin; refine dm rfl _ _ 91 127 rfl ir (.slice none 0 0) 24 Tryd.underlying91 hir hr0 hr1 hr2 rfl w.heap.size _ _ _ rfl Zv.out _ rfl rfl anv (by decide) anU ?_)
          intro v8 w8 xm r9 zM CK
          obtain ⟨g8, c8, rfl⟩ := nZ xm CK
          have Ku := HI.out.c.done r9 xm
          have FI := HI.out.t.keep r9 (fun b hx => by
            obtain ⟨h1, cur, h2⟩ := aA Zv.out hx
            refine ⟨h1, fun cs t hh => ?_, fun hB => ?_⟩
            · exact abj
            · rcases CP HI.out.t.set hB h2 with e | e <;> exact absurd e (by decide))
          have hf8 : w8.heap[fb]? = some (.cells (kW x.1 x.2) 66) := by
            rw [r9.block fb (Array.getElem?_eq_some_iff.1 HI.out.f).1 (fun hx => by
              obtain ⟨_, cur, h2⟩ := aA Zv.out hx
              exact aN HI.out.f h2 (by decide) rfl)]
            exact HI.out.f
          have t8 := aj FI.tb 4
          have fz8 := aav _ _ 4 _ _ FI.tb
          have HT8 := ah (FI.ank (.slice (some ⟨g8, 0, none⟩) (l.length + 1) c8))
          have HRd : Hid (jW (w8.setCell ⟨w.heap.size + 3, 4, none⟩ (.slice (some ⟨g8, 0, none⟩) (l.length + 1) c8)) w.heap.size (.slice (some ⟨g8, 0, none⟩) (l.length + 1) c8) (l ++ [(.slice gX (jK K Z x S).length FK, jK K Z x S)])) := Ku.congr fun b cs t ht _ hh => by
            rw [ay _ _ _ _ _ (aN hh FI.tb (by rcases ht with e | e <;> (rw [e]; decide)))]; exact hh
          have Hf8 : Hid ((w8.setCell ⟨w.heap.size + 3, 4, none⟩ (.slice (some ⟨g8, 0, none⟩) (l.length + 1) c8)).heap[fb]? = some (.cells (kW x.1 x.2) 66)) := by
            show _ = _
            rw [ay _ _ _ _ _ (aN hf8 FI.tb (by decide))]; exact hf8
          clear xm r9 zM CK Ku FI hf8 t4 Tf Zv HI
          go_upto_region 18 with fail
          clear t8 fz8
          generalize w8.setCell ⟨w.heap.size + 3, 4, none⟩ (.slice (some ⟨g8, 0, none⟩) (l.length + 1) c8) = W8 at *
          refine aaA (S := fun u => u.cell? ⟨w.heap.size, 3, none⟩ = some (ru pc pa pb) ∧ u.cell? ⟨fb, 0, none⟩ = some (.int .i64 x.1) ∧ u.cell? ⟨fb, 1, none⟩ = some (.int .i64 x.2)) (by kernel_rfl) ?_
          have hbd : aal W8.heap.size W8 ({ heap := W8.heap, tape := W8.tape, drawn := W8.drawn + 1, os := W8.os, output := W8.output } : aah) := (aat _ _).drew
          generalize ({ heap := W8.heap, tape := W8.tape, drawn := W8.drawn + 1, os := W8.os, output := W8.output } : aah) = Wd at *
          have LQ := HT8.out.below hbd
          have xJ := aC Hf8.out hbd
          have hSd : (fun u => u.cell? ⟨w.heap.size, 3, none⟩ = some (ru pc pa pb) ∧ u.cell? ⟨fb, 0, none⟩ = some (.int .i64 x.1) ∧ u.cell? ⟨fb, 1, none⟩ = some (.int .i64 x.2)) Wd := ⟨aj LQ.wb 3, aj xJ 0, aj xJ 1⟩
          try refine tn ?_
          refine tx 0 ?_ (hS := hSd)
          refine tx 2 ?_ (hS := hSd)
          refine tx 3 ?_ (hS := hSd)
          refine tx 4 ?_ (v := .agg (kW x.1 x.2)) (hS := hSd)
          refine bX 1 5 (by kernel_rfl) ?ga ?gb
          case' ga =>
            refine aP _ _ rfl (by kernel_rfl) (og _ _ _ _ rfl (w.heap.size + 3) 5 bs.length nS gM (by kernel_rfl) (aj LQ.tb 5)) ?_
            refine ⟨hSd, ?_⟩
            try refine tn ?_
            refine aF 5 (by kernel_rfl) ?_
            refine bQ 37 #[.agg (kW x.1 x.2), .pointer (some ⟨pc, 0, none⟩), .pointer (some ⟨pa, 0, none⟩), .pointer (some ⟨pb, 0, none⟩)] rfl (by kernel_rfl) (DK _ _ _ _ _ _ _ rfl _ _ _ _ (by kernel_rfl) (by kernel_rfl) (Tryd.call37 _ _)) ?_
            refine (HFI.out x _ LQ.bel JU.out).mono ?_
            rintro e' we ⟨rfl, hbe⟩
            have hTe := LQ.below hbe
            have hfe := aC xJ hbe
            refine ⟨⟨aj hTe.wb 3, aj hfe 0, aj hfe 1⟩, ?_⟩
            try refine tn ?_
            refine aF 6 (by kernel_rfl) ?_
            refine aP _ _ rfl (by kernel_rfl) (l9 _ _ _ _ rfl (K.fin x) (by kernel_rfl)) ?_
            have dD : aal we.heap.size we (we.alloc (.cells #[.bool (K.fin x)] 4)) := (aat _ _).alloc (aas _) _
            have Mt := hTe.below dD
            have hfA := aC hfe dD
            refine ⟨⟨aj Mt.wb 3, aj hfA 0, aj hfA 1⟩, ?_⟩
            try refine tn ?_
          case' gb =>
            refine bQ 37 #[.agg (kW x.1 x.2), .pointer (some ⟨pc, 0, none⟩), .pointer (some ⟨pa, 0, none⟩), .pointer (some ⟨pb, 0, none⟩)] rfl (by kernel_rfl) (DK _ _ _ _ _ _ _ rfl _ _ _ _ (by kernel_rfl) (by kernel_rfl) (Tryd.call37 _ _)) ?_
            refine (HFI.out x _ LQ.bel JU.out).mono ?_
            rintro e' we ⟨rfl, hbe⟩
            have hTe := LQ.below hbe
            have hfe := aC xJ hbe
            refine ⟨⟨aj hTe.wb 3, aj hfe 0, aj hfe 1⟩, ?_⟩
            try refine tn ?_
            refine bX 1 6 (by kernel_rfl) ?gc ?gd
          case' gc =>
            refine aP _ _ rfl (by kernel_rfl) (og _ _ _ _ rfl (w.heap.size + 3) 5 bs.length nS gM (by kernel_rfl) (aj hTe.tb 5)) ?_
            refine ⟨⟨aj hTe.wb 3, aj hfe 0, aj hfe 1⟩, ?_⟩
            try refine tn ?_
            refine aF 6 (by kernel_rfl) ?_
            refine aP _ _ rfl (by kernel_rfl) (l9 _ _ _ _ rfl (K.fin x) (by kernel_rfl)) ?_
            have dD : aal we.heap.size we (we.alloc (.cells #[.bool (K.fin x)] 4)) := (aat _ _).alloc (aas _) _
            have Mt := hTe.below dD
            have hfA := aC hfe dD
            refine ⟨⟨aj Mt.wb 3, aj hfA 0, aj hfA 1⟩, ?_⟩
            try refine tn ?_
          case' gd =>
            refine aP _ _ rfl (by kernel_rfl) (l9 _ _ _ _ rfl (K.fin x) (by kernel_rfl)) ?_
            have dD : aal we.heap.size we (we.alloc (.cells #[.bool (K.fin x)] 4)) := (aat _ _).alloc (aas _) _
            have Mt := hTe.below dD
            have hfA := aC hfe dD
            refine ⟨⟨aj Mt.wb 3, aj hfA 0, aj hfA 1⟩, ?_⟩
            try refine tn ?_
            refine aF 1 (by kernel_rfl) ?_
            refine aP _ _ rfl (by kernel_rfl) (og _ _ _ _ rfl (w.heap.size + 3) 5 bs.length nS gM (by kernel_rfl) (aj Mt.tb 5)) ?_
            refine ⟨⟨aj Mt.wb 3, aj hfA 0, aj hfA 1⟩, ?_⟩
            try refine tn ?_
          all_goals
            refine aF 7 (by kernel_rfl) ?_
            refine GH rfl (by kernel_rfl) rfl _ _ rfl ib hib hb0 hb1 hb2 w.heap.size _ bs.length (bs.map Value.bool) (by kernel_rfl) hTe.fin (K.fin x) we.heap.size rfl (by kernel_rfl) (by rw [mV.out]; omega) hTe.bel.size ?_
            intro g9 c9 W9 EY qW sw
            have xR := hTe.sH qW EY
            have Me : W9.heap[fb]? = some (.cells (kW x.1 x.2) 66) := by
              rw [qW.block fb (Array.getElem?_eq_some_iff.1 hfe).1 (fun hx => by
                obtain ⟨_, cur, h2⟩ := aA hTe.fin hx
                exact aN hfe h2 (by decide) rfl)]
              exact hfe
            have UT : W9.heap[w.heap.size]? = some (.cells (BM x0 (uy pa pb) (ru pc pa pb)) 71) := by
              have h1 := xR.1.wb
              rw [ay _ _ _ _ _ (by omega)] at h1
              exact h1
            refine ⟨⟨aj UT 3, aj Me 0, aj Me 1⟩, ?_⟩
            try refine tn ?_
            refine tx 8 ?_ (hS := ⟨aj UT 3, aj Me 0, aj Me 1⟩)
            refine aF 9 (by kernel_rfl) ?_
            refine bI _ rfl (by kernel_rfl) (D5 _ _ _ _ _ rfl (w.heap.size + 3) 5 g9 (bs.length + 1) c9 _ (by kernel_rfl) (by kernel_rfl) (aj xR.2 5) (aav _ _ 5 _ _ xR.2)) ?_
            have Xp : (W9.setCell ⟨w.heap.size + 3, 5, none⟩ (.slice (some ⟨g9, 0, none⟩) (bs.length + 1) c9)).heap[fb]? = some (.cells (kW x.1 x.2) 66) := by
              rw [ay _ _ _ _ _ (aN Me xR.2 (by decide))]; exact Me
            refine ⟨⟨aj xR.1.wb 3, aj Xp 0, aj Xp 1⟩, ?_⟩
            try refine tn ?_
            refine wpAnyH_done (by kernel_rfl) ?_ _
            have HTn := ah xR.1
            have HRn : Hid (jW (W9.setCell ⟨w.heap.size + 3, 5, none⟩ (.slice (some ⟨g9, 0, none⟩) (bs.length + 1) c9)) w.heap.size (.slice (some ⟨g8, 0, none⟩) (l.length + 1) c8) (l ++ [(.slice gX (jK K Z x S).length FK, jK K Z x S)])) := HRd.out.congr fun b cs t ht _ hh => by
              have h1 : we.heap[b]? = some (.cells cs t) := aC (aC hh hbd) hbe
              have h2 : W9.heap[b]? = some (.cells cs t) := by
                rw [qW.block b (Array.getElem?_eq_some_iff.1 h1).1 (fun hx => by
                  obtain ⟨_, cur, h2⟩ := aA hTe.fin hx
                  exact aN h1 h2 (by rcases ht with e | e <;> (rw [e]; decide)) rfl)]
                exact h1
              rw [ay _ _ _ _ _ (aN h2 xR.2 (by rcases ht with e | e <;> (rw [e]; decide)))]; exact h2
            have S9 : Hid (jL K S x0 (i + 1) (aS K Z x S) (aB ++ [toN K (aS K Z x S) x S]) (bs ++ [K.fin x])) := by
              have := HG.out.step hlt
              rw [HXg.out] at this
              exact this
            have rH : Hid ((l ++ [((.slice gX (jK K Z x S).length FK : aab), jK K Z x S)]).map (·.2) = (aB ++ [toN K (aS K Z x S) x S]).map runs) := by
              show _ = _
              rw [List.map_append, List.map_append, HL.out]
              rfl
            clear EY qW sw xR Me Xp UT hTe hfe hbe LQ xJ hSd hbd HRd HT8 Hf8
            go_wp2_with fail
            go_roundw
            case rel => exact ⟨i + 1, _, _, _, _, _, _, _, _, by go_num, HTn.out, HRn.out, S9.out, rH.out, E5.out⟩
            case measure => simp [intOf]; omega
    · have hltz : ¬ (i : Int) < (Z.length : Int) := by omega
      obtain rfl : i = Z.length := by omega
      obtain ⟨EW, Gp, hvl⟩ := iK HR.out.row
      obtain ⟨gM, nS, tL⟩ := iK hT.fin
      subst hvl
      subst tL
      have m0 := aj hT.tb 0
      have m1 := aj hT.tb 1
      have m2 := aj hT.tb 2
      have m3 := aj hT.tb 3
      have m4 := aj hT.tb 4
      have m5 := aj hT.tb 5
      have m6 := aj hT.tb 6
      have m7 := aj hT.tb 7
      have r0 := aj hT.rb 0
      have r1 := aj hT.rb 1
      have r2 := aj hT.rb 2
      have r3 := aj hT.rb 3
      have r4 := aj hT.rb 4
      have r5 := aj hT.rb 5
      have r6 := aj hT.rb 6
      have r7 := aj hT.rb 7
      have TD := fun j => aav _ _ j _ _ hT.rb
      have pg := ah (Uh hT.rb (.slice ad0 n0 c0) (.slice kM n1 c1) (.slice kJ S c2) (.slice lg n3 c3) (.slice EW l.length Gp) (.slice gM bs.length nS) (aJ) (aJ))
      have hbf : aal w.heap.size w ((((((((wr.setCell ⟨w.heap.size + 2, 0, none⟩ (.slice ad0 n0 c0)).setCell ⟨w.heap.size + 2, 1, none⟩ (.slice kM n1 c1)).setCell ⟨w.heap.size + 2, 2, none⟩ (.slice kJ S c2)).setCell ⟨w.heap.size + 2, 3, none⟩ (.slice lg n3 c3)).setCell ⟨w.heap.size + 2, 4, none⟩ (.slice EW l.length Gp)).setCell ⟨w.heap.size + 2, 5, none⟩ (.slice gM bs.length nS)).setCell ⟨w.heap.size + 2, 6, none⟩ (aJ)).setCell ⟨w.heap.size + 2, 7, none⟩ (aJ)) := ((((((((hT.bel.setCell (p := ⟨w.heap.size + 2, 0, none⟩) (by show _ ≤ _; simp) (.slice ad0 n0 c0)).setCell (p := ⟨w.heap.size + 2, 1, none⟩) (by show _ ≤ _; simp) (.slice kM n1 c1)).setCell (p := ⟨w.heap.size + 2, 2, none⟩) (by show _ ≤ _; simp) (.slice kJ S c2)).setCell (p := ⟨w.heap.size + 2, 3, none⟩) (by show _ ≤ _; simp) (.slice lg n3 c3)).setCell (p := ⟨w.heap.size + 2, 4, none⟩) (by show _ ≤ _; simp) (.slice EW l.length Gp)).setCell (p := ⟨w.heap.size + 2, 5, none⟩) (by show _ ≤ _; simp) (.slice gM bs.length nS)).setCell (p := ⟨w.heap.size + 2, 6, none⟩) (by show _ ≤ _; simp) (aJ)).setCell (p := ⟨w.heap.size + 2, 7, none⟩) (by show _ ≤ _; simp) (aJ))
      have hoth : ∀ b, b ≠ w.heap.size + 2 → ((((((((wr.setCell ⟨w.heap.size + 2, 0, none⟩ (.slice ad0 n0 c0)).setCell ⟨w.heap.size + 2, 1, none⟩ (.slice kM n1 c1)).setCell ⟨w.heap.size + 2, 2, none⟩ (.slice kJ S c2)).setCell ⟨w.heap.size + 2, 3, none⟩ (.slice lg n3 c3)).setCell ⟨w.heap.size + 2, 4, none⟩ (.slice EW l.length Gp)).setCell ⟨w.heap.size + 2, 5, none⟩ (.slice gM bs.length nS)).setCell ⟨w.heap.size + 2, 6, none⟩ (aJ)).setCell ⟨w.heap.size + 2, 7, none⟩ (aJ)).heap[b]? = wr.heap[b]? := fun b hb' => by
        rw [ay _ _ _ _ _ hb', ay _ _ _ _ _ hb', ay _ _ _ _ _ hb', ay _ _ _ _ _ hb', ay _ _ _ _ _ hb', ay _ _ _ _ _ hb', ay _ _ _ _ _ hb', ay _ _ _ _ _ hb']
      have HFin : Hid (Vw K x0 S (.slice ad0 n0 c0) (.slice kM n1 c1) (.slice kJ S c2) (.slice lg n3 c3) w (.returned (.tuple #[.agg #[.slice ad0 n0 c0, .slice kM n1 c1, .slice kJ S c2, .slice lg n3 c3, .slice EW l.length Gp, .slice gM bs.length nS, aJ, aJ], .int .i64 0])) ((((((((wr.setCell ⟨w.heap.size + 2, 0, none⟩ (.slice ad0 n0 c0)).setCell ⟨w.heap.size + 2, 1, none⟩ (.slice kM n1 c1)).setCell ⟨w.heap.size + 2, 2, none⟩ (.slice kJ S c2)).setCell ⟨w.heap.size + 2, 3, none⟩ (.slice lg n3 c3)).setCell ⟨w.heap.size + 2, 4, none⟩ (.slice EW l.length Gp)).setCell ⟨w.heap.size + 2, 5, none⟩ (.slice gM bs.length nS)).setCell ⟨w.heap.size + 2, 6, none⟩ (aJ)).setCell ⟨w.heap.size + 2, 7, none⟩ (aJ))) := by
        refine ⟨_, _, Z, aB, bs, l, rfl, ?_, HL.out, HR.out.congr fun b cs t ht _ hh => ?_, aG hT.fin (fun b hk => ?_), hbf, hZ⟩
        · exact HG.out
        · rw [hoth b (aN hh hT.rb (by rcases ht with e | e <;> (rw [e]; decide)))]; exact hh
        · obtain ⟨_, cur, h2⟩ := aA hT.fin hk
          exact hoth b (aN h2 hT.rb (by decide))
      clear hoth hbf hT hG HT HR
      go_wp2_with fail
      have q0 := aj pg.out 0
      have q1 := aj pg.out 1
      have q2 := aj pg.out 2
      have q3 := aj pg.out 3
      have q4 := aj pg.out 4
      have q5 := aj pg.out 5
      have q6 := aj pg.out 6
      have q7 := aj pg.out 7
      clear pg TD m0 r0 m1 r1 m2 r2 m3 r3 m4 r4 m5 r5 m6 r6 m7 r7
      generalize ((((((((wr.setCell ⟨w.heap.size + 2, 0, none⟩ (.slice ad0 n0 c0)).setCell ⟨w.heap.size + 2, 1, none⟩ (.slice kM n1 c1)).setCell ⟨w.heap.size + 2, 2, none⟩ (.slice kJ S c2)).setCell ⟨w.heap.size + 2, 3, none⟩ (.slice lg n3 c3)).setCell ⟨w.heap.size + 2, 4, none⟩ (.slice EW l.length Gp)).setCell ⟨w.heap.size + 2, 5, none⟩ (.slice gM bs.length nS)).setCell ⟨w.heap.size + 2, 6, none⟩ (aJ)).setCell ⟨w.heap.size + 2, 7, none⟩ (aJ)) = Wf at *
      refine bodyPost_ret (v := .tuple #[.agg #[.slice ad0 n0 c0, .slice kM n1 c1, .slice kJ S c2, .slice lg n3 c3, .slice EW l.length Gp, .slice gM bs.length nS, aJ, aJ], .int .i64 0]) (by simp [results, Tryd.results55, go_sem, *]) rfl ?_
      exact HFin.out
end Go.Proofs.YtkbjimkngmlfcaaDoor
