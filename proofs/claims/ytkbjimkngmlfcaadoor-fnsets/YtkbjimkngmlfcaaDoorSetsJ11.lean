import Derived.Test.YtkbjimkngmlfcaaDoorSetsJ10
open Go renaming World→aab,Operand→aar,Value→aaa,Oper→aas,execOp→aaw,heap_alloc_new→aaQ,below_drewN→aaV,wp_region_held→aa5
open Go.RowKit renaming Below→aah,intOf→aaE
open Go.RowKit.Below renaming refl→aau
open List renaming getD_eq_getElem?_getD→aap,getElem?_eq_getElem→aal,replicate→aaK,getElem_mem→aa4,getElem_of_mem→aa',getElem?_map→aaR
open Nat renaming lt_or_ge→aa9,le_refl→aat,zero_le→aa3
open Option renaming getD_some→aa1
open Option.some renaming injEq→aaY
open Or renaming inl→aaA,inr→aax
namespace Go.Proofs.YtkbjimkngmlfcaaDoor
open Go Go.RowKit
set_option linter.unusedVariables false
set_option linter.unusedSimpArgs false
set_option maxRecDepth 100000
set_option maxHeartbeats 8000000
theorem Zx {P:Prop}(h:P:=by rw[ay _ _ _ _ _ hx,ay _ _ _ _ _ hx,ay _ _ _ _ _ hx]) :P:=h
def J8(D:List aT)(w:aab)(e:Ending)(w':aab) :Prop:=∃vr vy vs vc ls kd Ps M sg sm ct,e= .returned (.agg #[vr,vy,vs,vc])∧iG ls∧ls.length≤128∧(∀r∈ls,0≤r∧r<128)∧(∀r,r∈ls↔∃s∈D,∃a∈s.2.1,a.1=r)∧wO ls (iV D D.length) Ps kd∧uH ls kd ls.length M sg sm ct∧bD w' vr ls∧bD w' vy (aH sg)∧bD w' vs (sm++ [-1])∧bD w' vc (ct++ [1112064-(ls.length:Int)])∧aah w.heap.size w w'
def qJ(D:List aT) :Prop:=∀s∈D,s.2.1.Pairwise (fun x y=>x.1<y.1)∧(∀a∈s.2.1,(0≤a.1∧a.1<128)∧ -1≤a.2∧a.2≤1024)∧s.2.1.length≤128
theorem qJ.at_ {D:List aT}(h:qJ D)(i:Nat) :(D.getD i ps0).2.1.Pairwise (fun x y=>x.1<y.1)∧(∀a∈(D.getD i ps0).2.1,(0≤a.1∧a.1<128)∧ -1≤a.2∧a.2≤1024)∧(D.getD i ps0).2.1.length≤128:=by exact afj
def Ia(D:List aT)(ls:List Int)(i k:Nat)(Ps:List (Int×Int×Int))(kd:List Int) :Prop:=wO ls (lD D i k) Ps kd∧Ps.length≤128*i+k
theorem Y7(W:aab)(ρ:aar→aaa)(o:aas)(ho:o.op= .alloc 103) :(aaw ρ o).run Tryd.prog W= .ok (.value (.pointer (some ⟨W.heap.size,0,none⟩))) (W.alloc (.cells #[.int .i64 0,.int .i64 0,.int .i64 0] 103)) :=by exact Xd
theorem Ml(W:aab)(ρ:aar→aaa)(o:aas)(x y:aar)(ho:o.op= .store 103 x y)(b:Nat)(p q:Int×Int×Int)(hx:ρ x= .pointer (some ⟨b,0,none⟩))(hy:ρ y= .agg (KC p))(h0:W.heap[b]?=some (.cells (KC q) 103)) :(aaw ρ o).run Tryd.prog W= .ok .skip (((W.setCell ⟨b,0,none⟩ (.int .i64 p.1)).setCell ⟨b,1,none⟩ (.int .i64 p.2.1)).setCell ⟨b,2,none⟩ (.int .i64 p.2.2)) :=by have c0:W.cell? ⟨b,0,none⟩=some (.int .i64 q.1) :=aj h0 0;have c1:W.cell? ⟨b,1,none⟩=some (.int .i64 q.2.1) :=aj h0 1;have c2:W.cell? ⟨b,2,none⟩=some (.int .i64 q.2.2) :=aj h0 2;have f0:W.frozen? ⟨b,0,none⟩=false:=bL h0 0;have f1:W.frozen? ⟨b,1,none⟩=false:=bL h0 1;have f2:W.frozen? ⟨b,2,none⟩=false:=bL h0 2;exact yu
theorem Tl.other {w1 W:aab} {gk m sb b7 b8 b:Nat} {kd:List Int} {vm aI:aaa} {Ps:List (Int×Int×Int)} {c7 cs:Array aaa} {kR:Int×Int×Int}(h:Tl w1 W gk m sb b7 b8 kd vm aI Ps c7 kR)(hb:W.heap[b]?=some (.cells cs 103))(hs: ∀x,bB sb vm aI x→x≠b)(h8:b8≠b)(hg:w1.heap.size≤b)(y0 y1 y2:aaa) :Tl w1 (((W.setCell ⟨b,0,none⟩ y0).setCell ⟨b,1,none⟩ y1).setCell ⟨b,2,none⟩ y2) gk m sb b7 b8 kd vm aI Ps c7 kR:=by
 have ho: ∀x,x≠b→(((W.setCell ⟨b,0,none⟩ y0).setCell ⟨b,1,none⟩ y1).setCell ⟨b,2,none⟩ y2).heap[x]?=W.heap[x]?:=fun x hx=>by exact Zx
 refine⟨⟨((h.k.bel.setCell (p:=⟨b,0,none⟩) hg _).setCell (p:=⟨b,1,none⟩) hg _).setCell (p:=⟨b,2,none⟩) hg _,aG h.k.kd (fun x hk=>ho x ?_),h.k.set.keep fun x hB=>ho x (hs x hB),h.k.sl⟩,(ho _ (aN h.x7 hb (by decide))).trans h.x7,(ho _ h8).trans h.x8,h.n8,h.g8⟩;obtain⟨_,cur,h2⟩ :=aA h.k.kd hk;exact aN h2 hb (by decide)
def Cz(ls:List Int)(aR:List (Int×Int))(k a:Nat) :Prop:=∀j,k≤j→j<aR.length→∃t,a≤t∧t<ls.length∧ls.getD t 0=(aR.getD j (0,0)).1
def Yf(Ps:List (Int×Int×Int))(kR:Int×Int×Int)(κ:Int) :Prop:=κ=0∨(kR∈Ps∧κ=(ix Ps kR:Int)+1)
theorem Cz.next {ls:List Int} {aR:List (Int×Int)} {k a t:Nat}(h:Cz ls aR k a)(hr:iG ls)(hp:aR.Pairwise fun x y=>x.1<y.1)(ht:t<ls.length)(hk:k<aR.length)(e:ls.getD t 0=(aR.getD k (0,0)).1) :Cz ls aR (k+1) t:=by
 intro j hj hjl;obtain⟨u,h1,h2,h3⟩ :=h j (by omega) hjl;refine⟨u,?_,h2,h3⟩;have h4:=List.pairwise_iff_getElem.1 hp k j hk hjl (by omega);rw[aap,aal ht,aap,aal hk]at e;rw[aap,aal h2,aap,aal hjl]at h3;simp only[aa1]at e h3;rcases aa9 u t with h5|h5;·have:=List.pairwise_iff_getElem.1 hr u t h2 ht h5;omega
 ·exact h5
theorem Cz.more {ls:List Int} {aR:List (Int×Int)} {k a:Nat}(h:Cz ls aR k a) :Cz ls aR (k+1) a:=fun j hj hjl=>h j (by omega) hjl
theorem Aq {ls:List Int}(hr:iG ls) {a t:Nat}(ht:t<ls.length)(h:a<t) :ls.getD a 0≠ls.getD t 0:=by rw[aap,aal (show a<ls.length by omega),aap,aal ht];simp only[aa1];have:=List.pairwise_iff_getElem.1 hr a t (by omega) ht h;omega
theorem bD.four {W:aab} {b:Nat} {t:TypeId}(h4:W.heap[b]?=some (.cells #[aJ,aJ,aJ,aJ] t)) {u:aaa} {zs:List Int}(hu:bD W u zs)(y0 y1 y2 y3:aaa) :bD ((((W.setCell ⟨b,0,none⟩ y0).setCell ⟨b,1,none⟩ y1).setCell ⟨b,2,none⟩ y2).setCell ⟨b,3,none⟩ y3) u zs:=by
 obtain⟨ad,cap,rfl,h⟩ :=hu;refine⟨ad,cap,rfl,?_⟩;rcases h with h| ⟨g,off,rfl,hg,hc⟩;·exact aaA h
 ·by_cases e:zs= [];·exact aaA e
  ·have hl:0<zs.length:=List.length_pos_iff.2 e;have hne:g≠b:=by
    rintro rfl;have h1:=hc 0 hl;rw[aj h4 (off+0)]at h1;rcases(by omega:off=0∨off=1∨off=2∨off=3∨4≤off)with rfl|rfl|rfl|rfl|h5;·simp at h1
    ·simp at h1
    ·simp at h1
    ·simp at h1
    ·rw[Array.getElem?_eq_none (by simpa using h5)]at h1;cases h1
   refine aax ⟨g,off,rfl,by simpa using hg,fun t ht=> ?_⟩;rw[←hc t ht];have hh:((((W.setCell ⟨b,0,none⟩ y0).setCell ⟨b,1,none⟩ y1).setCell ⟨b,2,none⟩ y2).setCell ⟨b,3,none⟩ y3).heap[g]?=W.heap[g]?:=by rw[ay _ _ _ _ _ hne,ay _ _ _ _ _ hne,ay _ _ _ _ _ hne,ay _ _ _ _ _ hne]
   simp only[World.cell?,hh]
theorem Xe {w w':aab} {v:aaa} {l:List Int}(h:bD w v l)(hb:aah w.heap.size w w') :bD w' v l:=h.below hb
theorem Jz (D : List aT) (ad : Option Addr) (c : Nat) (w : aab) (hD : qJ D) (hl : D.length ≤ 512) (h : dP w ad D) (FU : ∀ W, aah w.heap.size w W → Calls Tryd.prog 58 #[.slice ad D.length c] W (Kn D W)) :
    Calls Tryd.prog 40 #[.slice ad D.length c] w (J8 D w) := by
  have hb1 : aah w.heap.size w (w.alloc (.cells #[aJ, aJ, aJ, aJ] 74)) := (aau _ _).alloc (aat _) _
  have Bz := ah (aaQ w (.cells #[aJ, aJ, aJ, aJ] 74))
  have yc := ah (FU _ hb1)
  have HB1 := ah hb1
  have OT := ah h
  have HD := ah hD
  clear hb1 FU h hD
  go_enter Tryd.func40, Tryd.ntmps40
  go_wp2_with fail
  refine yc.out.mono ?_
  rintro e w1 ⟨gX, cr, ls, rfl, hr, hb2, Cf, aai, hrl, hmem⟩
  have HR := ah hr
  have qF := ah Cf
  have Um := ah aai
  have kH := ah hmem
  have HB2 := ah (HB1.out.trans (hb2.mono HB1.out.size))
  have anI := ah (aC Bz.out hb2)
  have HD2 := ah (OT.out.below (HB1.out.trans (hb2.mono HB1.out.size)))
  clear hr Cf aai hmem hb2 Bz yc HB1 OT
  have hmk := uh ls.length (by omega) w1
  have hown := tY w1 ls.length w1.heap.size (by omega) (aat _)
  go_upto_region 4 with fail
  have hz2 : (w1.alloc (.cells (zI (aaK ls.length 0)).toArray 3)).heap.size = w1.heap.size + 1 := by simp
  have HT0 : Hid (Tk w1 ((w1.alloc (.cells (zI (aaK ls.length 0)).toArray 3)).alloc (.cells #[.map none, aJ] 101)) w1.heap.size ls.length (w1.heap.size + 1) (aaK ls.length 0) (.map none) aJ []) := by
    refine ⟨((aau _ _).alloc (aat _) _).alloc (by rw [hz2]; omega) _, own_below hown ((aau _ _).alloc (aat _) _), ?_, by omega⟩
    have := qz (K := ji) (w1.alloc (.cells (zI (aaK ls.length 0)).toArray 3)) w1.heap.size
    rw [hz2] at this
    exact this
  have Iq : Hid (Ia D ls 0 0 [] (aaK ls.length 0)) := ⟨(wO.zero ls D).congr fun t _ => Av D 0 _, by simp⟩
  clear hmk hown hz2
  generalize (w1.alloc (.cells (zI (aaK ls.length 0)).toArray 3)).alloc (.cells #[.map none, aJ] 101) = W2 at *
  go_wp2_with fail
  go_loopw [21] (fun iv wx => ∃ (i : Nat) (kd : List Int) (Ps : List (Int × Int × Int)) (vm aI : aaa), iv = .int .i64 (i : Int) ∧ i ≤ D.length ∧ Tk w1 wx w1.heap.size ls.length (w1.heap.size + 1) kd vm aI Ps ∧ Ia D ls i 0 Ps kd) (fun iv _ => D.length - (aaE iv).toNat)
  case atStart => exact ⟨0, _, _, _, _, rfl, aa3 _, HT0.out, Iq.out⟩
  case round =>
    obtain ⟨i, kd, Ps, vm, aI, rfl, hi, hT, hK⟩ := hrel
    clear HT0 Iq
    have HT := ah hT
    have HK := ah hK
    by_cases hid : i < D.length
    · have WM : (i : Int) < (D.length : Int) := by omega
      obtain ⟨b, off, rfl, hb, hc⟩ := HD2.out.resolve_left (fun e => by rw [e] at hid; simp at hid)
      obtain ⟨x0, ai, ci, x1, hx, x2⟩ := hc i hid
      have x0 := (hT.bel.cell (cell_lt x0)).trans x0
      have x1 := (hT.bel.cell (cell_lt x1)).trans x1
      have x2 := (hT.bel.cell (cell_lt x2)).trans x2
      obtain ⟨hp, ha, hal⟩ := HD.out.at_ i
      have HP := ah hp
      have HA := ah ha
      obtain ⟨st, hst⟩ : ∃ st, D.getD i ps0 = st := ⟨_, rfl⟩
      have fZ := ah hst
      rw [hst] at x0 x1 hx x2 HP HA hal
      obtain ⟨f, aR, els⟩ := st
      dsimp only at x0 x1 hx x2 HP HA hal
      have HX := ah hx
      clear hc hp ha hst hT hK hx hb
      go_upto_region 8 with fail
      have hz3 : (wr.alloc (.cells #[.bool f, .slice ai aR.length ci, .int .i64 els] 42)).heap.size = wr.heap.size + 1 := by simp
      have dD : aah wr.heap.size wr ((wr.alloc (.cells #[.bool f, .slice ai aR.length ci, .int .i64 els] 42)).alloc (.cells #[.int .i64 0, .int .i64 0, .int .i64 0] 103)) := ((aau _ _).alloc (aat _) _).alloc (by rw [hz3]; omega) _
      have GR : Hid (Tl w1 ((wr.alloc (.cells #[.bool f, .slice ai aR.length ci, .int .i64 els] 42)).alloc (.cells #[.int .i64 0, .int .i64 0, .int .i64 0] 103)) w1.heap.size ls.length (w1.heap.size + 1) wr.heap.size (wr.heap.size + 1) kd vm aI Ps #[.bool f, .slice ai aR.length ci, .int .i64 els] (0, 0, 0)) := by
        refine ⟨HT.out.below dD, ?_, ?_, fun x hx => by have := (HT.out.set.blk hx).1; omega, by have := HT.out.bel.size; omega⟩
        · rw [Below.heap_alloc _ _ _ (by rw [hz3]; omega)]; exact aaQ _ _
        · rw [← hz3]; exact aaQ _ _
      obtain ⟨b7, kZ⟩ : ∃ b7, wr.heap.size = b7 := ⟨_, rfl⟩
      obtain ⟨b8, jS⟩ : ∃ b8, b7 + 1 = b8 := ⟨_, rfl⟩
      rw [kZ, jS] at GR
      simp only [kZ, jS]
      have LW : Hid (Cz ls aR 0 0) := fun j _ hj => by
        have hm : (aR.getD j (0, 0)).1 ∈ ls := (kH.out _).2 ⟨(f, aR, els), by rw [← fZ.out, aap, aal hid]; exact aa4 hid, aR.getD j (0, 0), by rw [aap, aal hj]; exact aa4 hj, rfl⟩
        obtain ⟨t, ht, e⟩ := aa' hm
        exact ⟨t, aa3 _, ht, by rw [aap, aal ht]; exact e⟩
      clear hz3 dD kZ jS x0 x1 x2 HT
      generalize (wr.alloc (.cells #[.bool f, .slice ai aR.length ci, .int .i64 els] 42)).alloc (.cells #[.int .i64 0, .int .i64 0, .int .i64 0] 103) = W3 at *
      have y1 := aj GR.out.x7 1
      have HB3 := ah GR.out.k.bel.size
      go_wp2_with fail
      go_loopw [29, 9, 10] (fun kv av cv wx => ∃ (k a : Nat) (κ : Int) (kd' : List Int) (Ps' : List (Int × Int × Int)) (dF bG : aaa) (kR : Int × Int × Int), kv = .int .i64 (k : Int) ∧ av = .int .i64 (a : Int) ∧ cv = .int .i64 κ ∧ k ≤ aR.length ∧ Tl w1 wx w1.heap.size ls.length (w1.heap.size + 1) b7 b8 kd' dF bG Ps' #[.bool f, .slice ai aR.length ci, .int .i64 els] kR ∧ Ia D ls i k Ps' kd' ∧ Cz ls aR k a ∧ Yf Ps' kR κ) (fun kv _ _ _ => aR.length - (aaE kv).toNat)
      case atStart => exact ⟨0, 0, 0, kd, Ps, vm, aI, _, rfl, rfl, rfl, aa3 _, GR.out, HK.out, LW.out, aaA rfl⟩
      case round =>
        obtain ⟨k, a, κ, kd', Ps', dF, bG, kR, rfl, rfl, rfl, hka, hL, hK', hPo, hKn⟩ := hrel
        rename aab => wr2
        clear GR LW HK y1 HB3
        have HL := ah hL
        have Dm := ah hK'
        have LC := ah hPo
        have AV := ah hKn
        by_cases hk : k < aR.length
        · have hkz : (k : Int) < (aR.length : Int) := by omega
          obtain ⟨ba, oa, rfl, hba, hca⟩ := HX.out.resolve_left (fun e => by rw [e] at hk; simp at hk)
          obtain ⟨r0, r1⟩ := hca k hk
          have r0 := (hL.k.bel.cell (cell_lt r0)).trans r0
          have r1 := (hL.k.bel.cell (cell_lt r1)).trans r1
          have AO : aR.getD k (0, 0) ∈ aR := by rw [aap, aal hk]; exact aa4 hk
          obtain ⟨⟨hr0, hr1⟩, ht0, ht1⟩ := HA.out _ AO
          obtain ⟨ar, har⟩ : ∃ ar, aR.getD k (0, 0) = ar := ⟨_, rfl⟩
          have vW := ah har
          rw [har] at r0 r1 hr0 hr1 ht0 ht1
          obtain ⟨ρ, τ⟩ := ar
          dsimp only at r0 r1 hr0 hr1 ht0 ht1
          have y2 := aj hL.x7 2
          clear hca AO har hL hK' hPo hKn
          go_upto_region 12 with fail
          have CO : aah wr2.heap.size wr2 (wr2.alloc (.cells #[.int .i64 ρ, .int .i64 τ] 44)) := (aau _ _).alloc (aat _) _
          have HM := ah (HL.out.below CO)
          have HY := ah (aaQ wr2 (.cells #[.int .i64 ρ, .int .i64 τ] 44))
          obtain ⟨b12, Eo⟩ : ∃ g, wr2.heap.size = g := ⟨_, rfl⟩
          rw [Eo] at HY
          simp only [Eo]
          clear CO Eo r0 r1 y2 HL
          generalize wr2.alloc (.cells #[.int .i64 ρ, .int .i64 τ] 44) = W4 at *
          have z0 := aj HY.out 0
          have z1 := aj HY.out 1
          have y2 := aj HM.out.x7 2
          by_cases he : τ = els
          · have heb : (τ == els) = true := by simpa using he
            have Jw : Hid (Ia D ls i (k + 1) Ps' kd') := by
              refine ⟨Dm.out.1.congr fun t _ => Nq ?_ ?_ ?_ _, by have := Dm.out.2; omega⟩
              · rw [fZ.out]; exact HP.out
              · rw [fZ.out]; exact hk
              · rw [fZ.out]; show (aR.getD k (0, 0)).2 = els; rw [vW.out]; exact he
            clear he
            go_wp2_with fail
            go_roundw
            case rel => exact ⟨k + 1, a, κ, kd', Ps', dF, bG, kR, by go_num, rfl, rfl, by omega, HM.out, Jw.out, LC.out.more, AV.out⟩
            case measure => simp [aaE]; omega
          · have heb : (τ == els) = false := by simpa using he
            obtain ⟨t, hat, htl, htr⟩ := LC.out k (aat _) hk
            rw [vW.out] at htr
            dsimp only at htr
            have uk := ah htr
            have HE := ah he
            clear htr he
            go_wp2_with fail
            clear z0 z1 y2
            go_loopw [9] (fun av wx => ∃ a' : Nat, av = .int .i64 (a' : Int) ∧ a' ≤ t ∧ aah W4.heap.size W4 wx) (fun av _ => t - (aaE av).toNat)
            case atStart => exact ⟨a, rfl, hat, aau _ _⟩
            case round =>
              obtain ⟨a', rfl, ha', hb5⟩ := hrel
              rename aab => wr3
              have hbel := HM.out.k.bel.trans (hb5.mono HM.out.k.bel.size)
              obtain ⟨g0, o0, rfl, q1, q2⟩ := HR.out.cells (i := a') (by omega)
              have c1 := (hbel.cell (p := ⟨g0, o0 + a', none⟩) q1).trans q2
              have HN := ah (HM.out.below hb5)
              have AJ := ah (aC HY.out hb5)
              have z0 := aj AJ.out 0
              have z1 := aj AJ.out 1
              have haz : (a' : Int) < (ls.length : Int) := by omega
              have eX := ah hb5
              clear q1 q2 hbel hb5
              by_cases hae : a' = t
              · obtain rfl := hae
                have hv : ls.getD a' 0 = ρ := uk.out
                rw [hv] at c1
                have hne : (ρ != ρ) = false := by simp
                clear hv
                go_wp2_with (go_quiet (fail))
                have Dz := ah (HN.out.below (aaV (aau _ _) nq))
                have vS := ah (aC AJ.out (aaV (aau _ _) nq))
                clear c1 z0 z1 HN AJ HM HY
                generalize wr3.drewN nq = W5 at *
                have hkd := Dz.out.k.kd
                have hkl : kd'.length = ls.length := Dm.out.1.len
                obtain ⟨jG, QY⟩ : ∃ z, kd'.getD a' 0 = z := ⟨_, rfl⟩
                have hkb := Dm.out.1.bnd a' htl
                rw [QY] at hkb
                have HKd := ah QY
                have k0 : W5.cell? ⟨w1.heap.size, a', none⟩ = some (.int .i64 jG) := aQ hkd (by
                  unfold zI
                  rw [aaR, ← QY, aap, aal (by omega)]
                  rfl)
                have nQ := ah hkl
                have HKb := ah hkb
                clear hkd hkl QY hkb
                refine aa5 (S := fun u => (u.cell? ⟨b12, 0, none⟩ = some (.int .i64 ρ) ∧ u.cell? ⟨b12, 1, none⟩ = some (.int .i64 τ)) ∧ u.cell? ⟨w1.heap.size, a', none⟩ = some (.int .i64 jG)) (by kernel_rfl) ?_
                have hbd : aah W5.heap.size W5 ({ heap := W5.heap, tape := W5.tape, drawn := W5.drawn + 1, os := W5.os, output := W5.output } : aab) := (aau _ _).drew
                generalize ({ heap := W5.heap, tape := W5.tape, drawn := W5.drawn + 1, os := W5.os, output := W5.output } : aab) = Wd at *
                have hS : ∀ u, aah Wd.heap.size Wd u → (fun u => (u.cell? ⟨b12, 0, none⟩ = some (.int .i64 ρ) ∧ u.cell? ⟨b12, 1, none⟩ = some (.int .i64 τ)) ∧ u.cell? ⟨w1.heap.size, a', none⟩ = some (.int .i64 jG) : aab → Prop) u := fun u hu => by
                  have hu2 : aah W5.heap.size W5 u := hbd.trans (hu.mono hbd.size)
                  exact ⟨⟨aj (aC vS.out hu2) 0, aj (aC vS.out hu2) 1⟩, (hu2.cell (cell_lt k0)).trans k0⟩
                have hSd := hS Wd (aau _ _)
                try refine tn ?_
                refine tx 0 ?_
                refine tx 1 ?_
                refine tx 2 ?_ (v := .pointer (some ⟨w1.heap.size, a', none⟩)) (hx := fun u _ => jD u _ _ _ _ rfl w1.heap.size a' ls.length ls.length (by kernel_rfl) (by kernel_rfl) htl)
                refine tx 3 ?_ (v := .int .i64 jG)
                refine tx 4 ?_
                refine tx 5 ?_
                refine tx 6 ?_ (v := .int .i64 τ)
                refine tx 7 ?_ (v := .agg (KC (jG, (i : Int), τ)))
                have hba : aah Wd.heap.size Wd (Wd.alloc (.cells #[.int .i64 0, .int .i64 0, .int .i64 0] 103)) := (aau _ _).alloc (aat _) _
                have Fb := aaQ Wd (.cells #[.int .i64 0, .int .i64 0, .int .i64 0] 103)
                refine t1 8 (Y7 _ _ _ rfl) ?_ (hS := hS _ hba)
                have hN7 := (Dz.out.below hbd).below hba
                have hY7 := aC (aC vS.out hbd) hba
                obtain ⟨b13, yz⟩ : ∃ g, Wd.heap.size = g := ⟨_, rfl⟩
                have WT : ∀ x, bB (w1.heap.size + 1) dF bG x → x ≠ b13 := fun x hx => by have := ((Dz.out.below hbd).k.set.blk hx).1; omega
                have WC : b8 ≠ b13 := by have := (Array.getElem?_eq_some_iff.1 (Dz.out.below hbd).x8).1; omega
                have adA : w1.heap.size ≤ b13 := by have := (Dz.out.below hbd).k.bel.size; omega
                have hSa := hS _ hba
                rw [yz] at Fb
                simp only [yz]
                clear yz hba hS hSd
                generalize Wd.alloc (.cells #[.int .i64 0, .int .i64 0, .int .i64 0] 103) = W6 at *
                refine aF 9 (by kernel_rfl) ?_
                refine bI _ rfl (by kernel_rfl) (Ml _ _ _ _ _ rfl b13 (jG, (i : Int), τ) (0, 0, 0) (by kernel_rfl) (by kernel_rfl) Fb) ?_
                have hN8 := hN7.other Fb WT WC adA (.int .i64 jG) (.int .i64 (i : Int)) (.int .i64 τ)
                have acF := OB Fb (.int .i64 jG) (.int .i64 (i : Int)) (.int .i64 τ)
                have hoth : ∀ x, x ≠ b13 → (((W6.setCell ⟨b13, 0, none⟩ (.int .i64 jG)).setCell ⟨b13, 1, none⟩ (.int .i64 (i : Int))).setCell ⟨b13, 2, none⟩ (.int .i64 τ)).heap[x]? = W6.heap[x]? := fun x hx => by
                  exact Zx
                have OA := (hoth _ (aN hY7 Fb (by decide))).trans hY7
                have hk8 := hN8.k.kd
                have k8 : (((W6.setCell ⟨b13, 0, none⟩ (.int .i64 jG)).setCell ⟨b13, 1, none⟩ (.int .i64 (i : Int))).setCell ⟨b13, 2, none⟩ (.int .i64 τ)).cell? ⟨w1.heap.size, a', none⟩ = some (.int .i64 jG) := aQ hk8 (by
                  unfold zI
                  rw [aaR, ← HKd.out, aap, aal (by rw [nQ.out]; exact htl)]
                  rfl)
                refine ⟨⟨⟨aj OA 0, aj OA 1⟩, k8⟩, ?_⟩
                try refine tn ?_
                refine wpAnyH_done (by kernel_rfl) ?_ _
                have OI := ah hN8
                have QU := ah acF
                have amK := ah WT
                have aoa := ah WC
                clear hN8 acF WT hoth OA hk8 k8 hN7 hY7 Fb hSa adA WC Dz vS k0 hbd
                dsimp only
                generalize ((W6.setCell ⟨b13, 0, none⟩ (.int .i64 jG)).setCell ⟨b13, 1, none⟩ (.int .i64 (i : Int))).setCell ⟨b13, 2, none⟩ (.int .i64 τ) = W7 at *
                have u0 := aj QU.out 0
                have u1 := aj QU.out 1
                have u2 := aj QU.out 2
                have l0 := aj OI.out.x8 0
                have l1 := aj OI.out.x8 1
                have l2 := aj OI.out.x8 2
                obtain ⟨pt, hpt⟩ : ∃ pt, (jG, (i : Int), τ) = pt := ⟨_, rfl⟩
                have nO := ah hpt
                obtain ⟨Bt, hBt⟩ : ∃ B : Bool, B = decide (κ = 0 ∨ pt ≠ kR) := ⟨_, rfl⟩
                have iq := ah hBt
                clear hBt hpt
                go_upto_region 16 with fail
                go_cut [61] (fun bv wx => bv = .bool Bt ∧ wx = W7)
                case first =>
                  by_cases yE : κ = 0
                  · have amF : (κ == 0) = true := by simpa using yE
                    have hB1 : Bt = true := by rw [iq.out]; simp [yE]
                    clear yE
                    go_wp2_with fail
                    go_meet
                    case rel => exact ⟨by rw [hB1], rfl⟩
                  · have amF : (κ == 0) = false := by simpa using yE
                    obtain ⟨q0, q1, q2⟩ := kR
                    obtain ⟨B0, h0⟩ : ∃ B, (jG == q0) = B := ⟨_, rfl⟩
                    obtain ⟨B1, h1⟩ : ∃ B, ((i : Int) == q1) = B := ⟨_, rfl⟩
                    obtain ⟨B2, h2⟩ : ∃ B, (τ == q2) = B := ⟨_, rfl⟩
                    have hBv : Bt = !(B0 && (B1 && B2)) := by
                      rw [iq.out, ← nO.out, ← h0, ← h1, ← h2, Bool.eq_iff_iff]
                      simp [yE]
                    have HBv := ah hBv
                    clear yE hBv
                    cases B0 <;> cases B1 <;> cases B2 <;> (go_wp2_with fail; go_meet; case rel => exact ⟨by rw [HBv.out]; rfl, rfl⟩)
                case rest =>
                  obtain ⟨rfl, rfl⟩ := hcut
                  rename aab => W7
                  obtain ⟨X, hX⟩ : ∃ X, ix (meet Ps' pt) pt = X := ⟨_, rfl⟩
                  have HXx := ah hX
                  have hXl : X < (meet Ps' pt).length := by rw [← hX]; exact lM (jQ.2 (aax rfl))
                  have hml : (meet Ps' pt).length ≤ 128 * i + k + 1 := by
                    have := Dm.out.2
                    unfold meet
                    split
                    · omega
                    · simp; omega
                  have hX9 : X ≤ 1000000 := by omega
                  clear hX hXl hml
                  go_upto_if 61 with fail
                  go_cut [10] (fun cv wx => ∃ (vm2 Zz : aaa) (QD : Int × Int × Int), cv = .int .i64 ((X : Int) + 1) ∧ Tl w1 wx w1.heap.size ls.length (w1.heap.size + 1) b7 b8 kd' vm2 Zz (meet Ps' pt) #[.bool f, .slice (some ⟨ba, oa, none⟩) aR.length ci, .int .i64 els] QD ∧ Yf (meet Ps' pt) QD ((X : Int) + 1))
                  case first =>
                    cases Bt with
                    | false =>
                      have hq := iq.out.symm
                      rw [decide_eq_false_iff_not] at hq
                      obtain ⟨yE, hpl⟩ := not_or.1 hq
                      have hpl : pt = kR := Classical.not_not.1 hpl
                      obtain ⟨hm, QF⟩ := AV.out.resolve_left yE
                      rw [← hpl] at hm QF
                      have hmo := dZ hm
                      have hxx := HXx.out
                      rw [hmo] at hxx
                      rw [hxx] at QF
                      have HF : Hid (κ = (X : Int) + 1 ∧ Tl w1 W7 w1.heap.size ls.length (w1.heap.size + 1) b7 b8 kd' dF bG (meet Ps' pt) #[.bool f, .slice (some ⟨ba, oa, none⟩) aR.length ci, .int .i64 els] kR ∧ Yf (meet Ps' pt) kR ((X : Int) + 1)) := ⟨QF, by rw [hmo]; exact OI.out, aax ⟨by rw [← hpl, hmo]; exact hm, by rw [hmo, ← hpl, hxx]⟩⟩
                      clear hq yE hpl hm QF hmo hxx
                      go_wp2_with fail
                      go_meet
                      case rel => exact ⟨dF, bG, kR, by rw [HF.out.1], HF.out.2.1, HF.out.2.2⟩
                    | true =>
                      go_upto_region 17 with fail
                      refine aa5 (S := fun u => u.cell? ⟨b13, 0, none⟩ = some (.int .i64 jG) ∧ u.cell? ⟨b13, 1, none⟩ = some (.int .i64 (i : Int)) ∧ u.cell? ⟨b13, 2, none⟩ = some (.int .i64 τ)) (by kernel_rfl) ?_
                      have hbd : aah W7.heap.size W7 ({ heap := W7.heap, tape := W7.tape, drawn := W7.drawn + 1, os := W7.os, output := W7.output } : aab) := (aau _ _).drew
                      generalize ({ heap := W7.heap, tape := W7.tape, drawn := W7.drawn + 1, os := W7.os, output := W7.output } : aab) = Wd at *
                      have ZT := OI.out.below hbd
                      have Oa := aC QU.out hbd
                      have hSd : (fun u => u.cell? ⟨b13, 0, none⟩ = some (.int .i64 jG) ∧ u.cell? ⟨b13, 1, none⟩ = some (.int .i64 (i : Int)) ∧ u.cell? ⟨b13, 2, none⟩ = some (.int .i64 τ) : aab → Prop) Wd := ⟨aj Oa 0, aj Oa 1, aj Oa 2⟩
                      try refine tn ?_
                      refine tx 0 ?_ (v := .agg (KC (jG, (i : Int), τ)))
                      refine tx 1 ?_ (v := .agg (KC (jG, (i : Int), τ)))
                      refine aF 2 (by kernel_rfl) ?_
                      refine bQ 59 #[.pointer (some ⟨w1.heap.size + 1, 0, none⟩), .agg (KC (jG, (i : Int), τ))] rfl (by kernel_rfl) (eT _ _ _ _ _ _ _ _ rfl _ _ (by kernel_rfl) (by kernel_rfl) (Tryd.call59 _ _)) ?_
                      have Ay := Dm.out.2
                      have hkb := HKb.out
                      have hpl := Qu w1.heap.size (w1.heap.size + 1) dF bG Ps' (jG, (i : Int), τ) Wd ⟨by dsimp only; omega, by dsimp only; omega, by dsimp only; omega⟩ (by omega) ZT.k.bel.size ZT.k.set
                      refine hpl.mono ?_
                      rintro e' w6 ⟨rfl, vm6, PM, hs6, iH, mY, xe⟩
                      have hXX : ix (meet Ps' (jG, (i : Int), τ)) (jG, (i : Int), τ) = X := by rw [nO.out]; exact HXx.out
                      rw [hXX]
                      rw [nO.out] at hs6
                      clear hXX
                      have hN6 := ZT.placed hs6 iH mY xe
                      have CE : w6.heap[b13]? = some (.cells #[.int .i64 jG, .int .i64 (i : Int), .int .i64 τ] 103) := by
                        rw [iH.block b13 (Array.getElem?_eq_some_iff.1 Oa).1 (fun hB => amK.out _ hB rfl)]; exact Oa
                      refine ⟨⟨aj CE 0, aj CE 1, aj CE 2⟩, ?_⟩
                      try refine tn ?_
                      have hwX : IntKind.i64.wrap (1 + (X : Int)) = (X : Int) + 1 := by rw [IntKind.wrap_i64]; omega
                      refine tx 3 ?_ (v := .int .i64 ((X : Int) + 1)) (hS := ⟨aj CE 0, aj CE 1, aj CE 2⟩)
                      clear hwX
                      have hN9 : Tl w1 (((w6.setCell ⟨b8, 0, none⟩ (.int .i64 jG)).setCell ⟨b8, 1, none⟩ (.int .i64 (i : Int))).setCell ⟨b8, 2, none⟩ (.int .i64 τ)) w1.heap.size ls.length (w1.heap.size + 1) b7 b8 kd' vm6 PM (meet Ps' pt) #[.bool f, .slice (some ⟨ba, oa, none⟩) aR.length ci, .int .i64 els] (jG, (i : Int), τ) := hN6.last (jG, (i : Int), τ)
                      have Ez : (((w6.setCell ⟨b8, 0, none⟩ (.int .i64 jG)).setCell ⟨b8, 1, none⟩ (.int .i64 (i : Int))).setCell ⟨b8, 2, none⟩ (.int .i64 τ)).heap[b13]? = some (.cells #[.int .i64 jG, .int .i64 (i : Int), .int .i64 τ] 103) := by
                        have hne := Ne.symm aoa.out
                        rw [ay _ _ _ _ _ hne, ay _ _ _ _ _ hne, ay _ _ _ _ _ hne]; exact CE
                      refine aF 4 (by kernel_rfl) ?_
                      refine bI _ rfl (by kernel_rfl) (Ml _ _ _ _ _ rfl b8 (jG, (i : Int), τ) kR (by kernel_rfl) (by kernel_rfl) hN6.x8) ?_
                      refine ⟨⟨aj Ez 0, aj Ez 1, aj Ez 2⟩, ?_⟩
                      try refine tn ?_
                      refine tx 5 ?_ (hS := ⟨aj Ez 0, aj Ez 1, aj Ez 2⟩)
                      refine wpAnyH_done (by kernel_rfl) ?_ _
                      have HN9 := ah hN9
                      clear hN9 hN6 hs6 iH mY xe CE Ez hpl Ay hkb hSd Oa ZT hbd u0 u1 u2 l0 l1 l2 OI
                      dsimp only
                      generalize ((w6.setCell ⟨b8, 0, none⟩ (.int .i64 jG)).setCell ⟨b8, 1, none⟩ (.int .i64 (i : Int))).setCell ⟨b8, 2, none⟩ (.int .i64 τ) = W9 at *
                      go_wp2_with fail
                      go_meet
                      case rel => exact ⟨vm6, PM, (jG, (i : Int), τ), rfl, HN9.out, aax ⟨by rw [nO.out]; exact jQ.2 (aax rfl), by rw [nO.out, HXx.out]⟩⟩
                  case rest =>
                    obtain ⟨vm2, Zz, QD, rfl, hL2, afE⟩ := hcut
                    rename aab => W8
                    have am5 := ah afE
                    have hkd := hL2.k.kd
                    have k8 : W8.cell? ⟨w1.heap.size, a', none⟩ = some (.int .i64 jG) := aQ hkd (by
                      unfold zI
                      rw [aaR, ← HKd.out, aap, aal (by rw [nQ.out]; exact htl)]
                      rfl)
                    have f8 := gI hkd a'
                    have rH := ah (hL2.put nQ.out htl ((X : Int) + 1))
                    have JY : Hid (Ia D ls i (k + 1) (meet Ps' pt) (kd'.set a' ((X : Int) + 1))) := by
                      have hnd : ls.Nodup := qF.out.imp fun h => by omega
                      have h1 := Dm.out.1.step hnd htl (L' := lD D i (k + 1)) (i := (i : Int)) (tt := τ) (by
                        have := UL (S := D) (i := i) (k := k) (by rw [fZ.out]; exact HP.out) (by rw [fZ.out]; exact hk) (by rw [fZ.out]; show (aR.getD k (0, 0)).2 ≠ els; rw [vW.out]; exact HE.out)
                        rw [fZ.out] at this
                        dsimp only at this
                        rw [vW.out] at this
                        dsimp only at this
                        rw [uk.out]
                        exact this) (fun u hu hne => Ni (by rw [fZ.out]; exact hk) (by
                          rw [fZ.out]
                          show (aR.getD k (0, 0)).1 ≠ _
                          rw [vW.out]
                          show ρ ≠ _
                          rw [← uk.out]
                          rcases aa9 u a' with h5 | h5
                          · exact Ne.symm (Aq qF.out htl h5)
                          · exact Aq qF.out hu (by omega)))
                      rw [HKd.out, nO.out, HXx.out] at h1
                      refine ⟨h1, ?_⟩
                      have := Dm.out.2
                      unfold meet
                      split
                      · omega
                      · simp; omega
                    have yT := ah (LC.out.next qF.out HP.out htl hk (by rw [vW.out]; exact uk.out))
                    clear hL2 afE hkd
                    go_wp2_with fail
                    go_roundw
                    case rel => exact ⟨k + 1, a', (X : Int) + 1, _, _, _, _, QD, by go_num, rfl, rfl, by omega, rH.out, JY.out, yT.out, am5.out⟩
                    case measure => simp [aaE]; omega
              · have hlt : a' < t := by omega
                have hv : ls.getD a' 0 ≠ ρ := by rw [← uk.out]; exact Aq qF.out htl hlt
                generalize ls.getD a' 0 = x at *
                have hne : (x != ρ) = true := by simpa using hv
                clear hv
                go_wp2_with (go_quiet (fail))
                exact ⟨⟨a' + 1, by go_num, by omega, aaV eX.out nq⟩, by simp [aaE]; omega⟩
        · have hkz : ¬ (k : Int) < (aR.length : Int) := by omega
          obtain rfl : k = aR.length := by omega
          have SA : Hid (Ia D ls (i + 1) 0 Ps' kd') := by
            refine ⟨Dm.out.1.congr fun t _ => ?_, by have := Dm.out.2; omega⟩
            have := SL D i (ls.getD t 0)
            rw [fZ.out] at this
            rw [Av, ← this]
          clear hL hK' hPo hKn
          go_wp2_with fail
          go_roundw
          case rel => exact ⟨i + 1, kd', Ps', dF, bG, by go_num, by omega, HL.out.k, SA.out⟩
          case measure => simp [aaE]; omega
    · have WM : ¬ (i : Int) < (D.length : Int) := by omega
      obtain rfl : i = D.length := by omega
      have hkl : kd.length = ls.length := hK.1.len
      have hkd := hT.kd
      have Ch := Xe HR.out hT.bel
      have hHk : bD wr (.slice (some ⟨w1.heap.size, 0, none⟩) ls.length ls.length) kd := bD.own (by rw [hkl]; exact hkd)
      have DI := Ms (.slice gX ls.length cr) (.slice (some ⟨w1.heap.size, 0, none⟩) ls.length ls.length) ls kd wr (by omega) hkl (fun x hx => by
        obtain ⟨t, ht, e⟩ := aa' hx
        have h1 := hK.1.bnd t (by omega)
        rw [aap, aal ht] at h1
        simp only [aa1, e] at h1
        have := hK.2
        omega) Ch hHk
      have VH := ah DI
      have SA : Hid (wO ls (iV D D.length) Ps kd) := hK.1.congr fun t _ => (Av D _ _).symm
      have ajf := ah (aC anI.out hT.bel)
      have HB3 := ah (HB2.out.trans (hT.bel.mono HB2.out.size))
      have aid := ah Ch
      clear hkl hkd Ch hHk DI hT hK HT HK
      go_wp2_with fail
      refine VH.out.mono ?_
      rintro e w5 ⟨vy, vs, vc, M, sg, sm, ct, rfl, hI, hy, hs, hc, hb5⟩
      have h4 := aC ajf.out hb5
      have r0 := aj h4 0
      have r1 := aj h4 1
      have r2 := aj h4 2
      have r3 := aj h4 3
      have TD := fun j => frozen_of_row _ _ j _ _ h4
      have pg := ah (LH h4 (.slice gX ls.length cr) vy vs vc)
      have eX := ah (HB3.out.trans (hb5.mono HB3.out.size))
      have hbf := (((eX.out.setCell (p := ⟨w.heap.size, 0, none⟩) (aat _) (.slice gX ls.length cr)).setCell (p := ⟨w.heap.size, 1, none⟩) (aat _) vy).setCell (p := ⟨w.heap.size, 2, none⟩) (aat _) vs).setCell (p := ⟨w.heap.size, 3, none⟩) (aat _) vc
      have HFin : Hid (J8 D w (.returned (.agg #[.slice gX ls.length cr, vy, vs, vc])) ((((w5.setCell ⟨w.heap.size, 0, none⟩ (.slice gX ls.length cr)).setCell ⟨w.heap.size, 1, none⟩ vy).setCell ⟨w.heap.size, 2, none⟩ vs).setCell ⟨w.heap.size, 3, none⟩ vc)) :=
        ⟨_, _, _, _, ls, kd, Ps, M, sg, sm, ct, rfl, qF.out, hrl, Um.out, kH.out, SA.out, hI, (aid.out.below hb5).four h4 _ _ _ _, hy.four h4 _ _ _ _, hs.four h4 _ _ _ _, hc.four h4 _ _ _ _, hbf⟩
      obtain ⟨a1, n1, c1, rfl⟩ : ∃ a n c, vy = .slice a n c := by obtain ⟨a, c, h, _⟩ := hy; exact ⟨_, _, _, h⟩
      obtain ⟨a2, n2, c2, rfl⟩ : ∃ a n c, vs = .slice a n c := by obtain ⟨a, c, h, _⟩ := hs; exact ⟨_, _, _, h⟩
      obtain ⟨a3, n3, c3, rfl⟩ : ∃ a n c, vc = .slice a n c := by obtain ⟨a, c, h, _⟩ := hc; exact ⟨_, _, _, h⟩
      clear hI hy hs hc hb5 h4 hbf eX VH aid ajf HB3
      go_wp2_with fail
      have q0 := aj pg.out 0
      have q1 := aj pg.out 1
      have q2 := aj pg.out 2
      have q3 := aj pg.out 3
      clear pg TD r0 r1 r2 r3
      generalize (((w5.setCell ⟨w.heap.size, 0, none⟩ (.slice gX ls.length cr)).setCell ⟨w.heap.size, 1, none⟩ (.slice a1 n1 c1)).setCell ⟨w.heap.size, 2, none⟩ (.slice a2 n2 c2)).setCell ⟨w.heap.size, 3, none⟩ (.slice a3 n3 c3) = Wf at *
      refine bodyPost_ret (v := .agg #[.slice gX ls.length cr, .slice a1 n1 c1, .slice a2 n2 c2, .slice a3 n3 c3]) (by simp [results, Tryd.results40, go_sem, *]) rfl ?_
      exact HFin.out
theorem Ju(o:List Nat)(c:Nat) :aH (meet o c)=meet (aH o) (c:Int) :=by
 unfold meet aH;have:(c:Int)∈o.map (fun(x:Nat)=>(x:Int))↔c∈o:=by
  rw[List.mem_map];constructor
  ·rintro⟨x,hx,e⟩;have:x=c:=by omega
   exact this▸hx
  ·exact fun h=>⟨c,h,rfl⟩
 by_cases h:c∈o;·rw[if_pos h,if_pos (this.2 h)]
 ·rw[if_neg h,if_neg (fun e=>h (this.1 e))];simp
theorem abJ(o:List Nat)(c:Nat) :ix (aH o) (c:Int)=ix o c:=BP (fun(x:Nat)=>(x:Int)) (fun _=>True) (fun x y _ _ e=>by omega) c trivial o (fun _ _=>trivial)
structure Dc(w W:aab)(kb db mb:Nat)(z:Int)(v vm aI:aaa)(o:List Nat) :Prop where
 below:aah w.heap.size w W
 res:W.heap[w.heap.size]?=some (.cells #[.slice none 0 0] 25)
 Ce:W.heap[kb]?=some (.cells #[.int .i64 z] 3)
 jk:W.heap[db]?=some (.cells #[v] 25)
 set:bA dX W w.heap.size mb vm aI (aH o)
 nk:aI.ownBlock≠some kb
 fd:w.heap.size<db
 fm:w.heap.size≤mb
section
variable {w W W1:aab} {kb db mb sb:Nat} {z:Int} {v vm aI vl va:aaa} {o:List Nat} {l:List dK} {zs:List Int} {f:Bool} {rs:List (Int×Int)} {e:Int}
theorem Dc.keep(h:Dc w W kb db mb z v vm aI o)(hb:aah W.heap.size W W1) :Dc w W1 kb db mb z v vm aI o:=⟨h.below.trans (hb.mono h.below.size),aC h.res hb,aC h.Ce hb,aC h.jk hb,h.set.below hb,h.nk,h.fd,h.fm⟩
theorem Ie {base:Nat} {L:List Int}(h:bA dX W base mb vm aI L)(hb:But (bB mb vm aI) W W1) : ∀(b:Nat)(cs:Array aaa)(t:TypeId),t≠142→t≠3→W.heap[b]?=some (.cells cs t)→W1.heap[b]?=some (.cells cs t) :=by
 intro b cs t h1 h2 hh;rw[hb.block b (Array.getElem?_eq_some_iff.1 hh).1 (fun hB=>by
  rcases oG h hB hh with e|e;·exact h1 e
  ·exact h2 e)];exact hh
theorem OV {base b:Nat} {L:List Int}(h:bA dX W base mb vm aI L)(hb:But (bB mb vm aI) W W1) {cs:Array aaa}(hh:W.heap[b]?=some (.cells cs 3))(hn:aI.ownBlock≠some b) :W1.heap[b]?=some (.cells cs 3) :=by
 rw[hb.block b (Array.getElem?_eq_some_iff.1 hh).1 (fun hB=>by
  rcases Bg h b hB with e|e;·exact hn e
  ·exact e cs hh)];exact hh
theorem Dc.place(h:Dc w W kb db mb z v vm aI o) {dF bG:aaa} {o':List Nat}(hs:bA dX W1 w.heap.size mb dF bG (aH o'))(hb:But (bB mb vm aI) W W1)(hat: ∀b,bG.ownBlock=some b→aI.ownBlock=some b∨W.heap.size≤b) :Dc w W1 kb db mb z v dF bG o':=by
 refine⟨h.below.trans (hb.below h.below.size (fun j hj hB=> ?_)),Ie h.set hb _ _ _ (by decide) (by decide) h.res,OV h.set hb h.Ce h.nk,Ie h.set hb _ _ _ (by decide) (by decide) h.jk,hs,fun e=> ?_,h.fd,h.fm⟩
 ·rcases h.set.from_ hB with e|e;·have:=h.fm;omega
  ·omega
 ·rcases hat kb e with e1|e1;·exact h.nk e1
  ·have:=(Array.getElem?_eq_some_iff.1 h.Ce).1;omega
theorem Dc.but(h:Dc w W kb db mb z v vm aI o) {X:Nat→Prop}(hb:But X W W1)(hX: ∀b,X b→w.heap.size≤b∧∃cs t,W.heap[b]?=some (.cells cs t)∧(t=42∨t=44)) :Dc w W1 kb db mb z v vm aI o:=by
 have hot: ∀(b:Nat)(cs:Array aaa)(t:TypeId),t≠42→t≠44→W.heap[b]?=some (.cells cs t)→W1.heap[b]?=some (.cells cs t) :=by
  intro b cs t h1 h2 hh;rw[hb.block b (Array.getElem?_eq_some_iff.1 hh).1 (fun hB=>by
   obtain⟨_,cs2,t2,h3,h4⟩ :=hX b hB;rw[hh]at h3;simp only[aaY,Obj.cells.injEq]at h3;rcases h4 with e|e;·exact h1 (h3.2.1.trans e)
   ·exact h2 (h3.2.1.trans e))];exact hh
 refine⟨h.below.trans (hb.below h.below.size (fun j hj hB=>by have:=(hX j hB).1;omega)),hot _ _ _ (by decide) (by decide) h.res,hot _ _ _ (by decide) (by decide) h.Ce,hot _ _ _ (by decide) (by decide) h.jk,h.set.but hb (fun b hB hx=> ?_),h.nk,h.fd,h.fm⟩;obtain⟨_,cs2,t2,h3,h4⟩ :=hX b hx;rcases oG h.set hB h3 with e|e;·rcases h4 with e2|e2<;>(rw[e]at e2;exact absurd e2 (by decide))
 ·rcases h4 with e2|e2<;>(rw[e]at e2;exact absurd e2 (by decide))
structure D7(w W:aab)(kb db mb sb:Nat)(z:Int)(v:aaa)(l:List dK)(vm aI:aaa)(o:List Nat)(vl:aaa)(zs:List Int)(va:aaa)(f:Bool)(rs:List (Int×Int))(e:Int) :Prop where
 core:Dc w W kb db mb z v vm aI o
 ld:W.ownsRow w.heap.size 3 1 vl zs.length (zI zs)
 nl: ∀b,vl.ownBlock=some b→aI.ownBlock≠some b
 cur:mI W w.heap.size v l sb va f rs e
theorem Dc.start(h:Dc w W kb db mb z v vm aI o)(hd:bq W w.heap.size v l)(f:Bool)(e:Int) :D7 w (W.alloc (.cells #[.bool f,.slice none 0 0,.int .i64 e] 42)) kb db mb W.heap.size z v l vm aI o (.slice none 0 0) [] (.slice none 0 0) f [] e:=⟨h.keep ((aau _ _).alloc (aat _) _),World.ownsRow_nil _ _ _ _,fun b hb=>by simp[Value.ownBlock]at hb,hd.start h.below.size f e⟩
theorem D7.keep(h:D7 w W kb db mb sb z v l vm aI o vl zs va f rs e)(hb:aah W.heap.size W W1) :D7 w W1 kb db mb sb z v l vm aI o vl zs va f rs e:=⟨h.core.keep hb,own_below h.ld hb,h.nl,h.cur.congr fun b cs t _ hh=>aC hh hb⟩
theorem D7.lead(h:D7 w W kb db mb sb z v l vm aI o vl zs va f rs e)(hb:aah W.heap.size W W1) {vl':aaa} {zs':List Int}(ho:W1.ownsRow W.heap.size 3 1 vl' zs'.length (zI zs')) :D7 w W1 kb db mb sb z v l vm aI o vl' zs' va f rs e:=by refine⟨h.core.keep hb,jM ho h.core.below.size,fun b hk e=> ?_,h.cur.congr fun b cs t _ hh=>aC hh hb⟩;have h1:=(aA ho hk).1;have h2:=(h.core.set.blk (aax (aax e))).1;omega
theorem D7.place(h:D7 w W kb db mb sb z v l vm aI o vl zs va f rs e) {dF bG:aaa} {o':List Nat}(hs:bA dX W1 w.heap.size mb dF bG (aH o'))(hb:But (bB mb vm aI) W W1)(hat: ∀b,bG.ownBlock=some b→aI.ownBlock=some b∨W.heap.size≤b) :D7 w W1 kb db mb sb z v l dF bG o' vl zs va f rs e:=by
 refine⟨h.core.place hs hb hat,aG h.ld (fun b hk=> ?_),fun b hk e=> ?_,h.cur.congr fun b cs t ht hh=>Ie h.core.set hb b cs t (by rcases ht with e|e<;>(rw[e];decide)) (by rcases ht with e|e<;>(rw[e];decide)) hh⟩;·obtain⟨_,cur,h2⟩ :=aA h.ld hk;rw[OV h.core.set hb h2 (h.nl b hk),h2]
 ·rcases hat b e with e1|e1;·exact h.nl b hk e1
  ·have:=(Array.getElem?_eq_some_iff.1 (aA h.ld hk).2.choose_spec).1;omega
theorem UO {base:Nat} {X:Nat→Prop}(h:W.ownsRow base 3 1 vl zs.length (zI zs))(hb:But X W W1)(hX: ∀b,X b→∃cs t,W.heap[b]?=some (.cells cs t)∧(t=42∨t=44)) :W1.ownsRow base 3 1 vl zs.length (zI zs) :=aG h (fun b hk=>by
 obtain⟨_,cur,h2⟩ :=aA h hk;refine hb.block b (Array.getElem?_eq_some_iff.1 h2).1 (fun hB=> ?_);obtain⟨cs2,t2,h3,h4⟩ :=hX b hB;rw[h2]at h3;simp only[aaY,Obj.cells.injEq]at h3;rcases h4 with e|e;·exact absurd (h3.2.1.trans e) (by decide)
 ·exact absurd (h3.2.1.trans e) (by decide))
theorem D7.BU(h:D7 w W kb db mb sb z v l vm aI o vl zs va f rs e) {ic:aaa} {a:Int×Int}(hb:But (fun b=>va.ownBlock=some b) W W1)(ho:W1.ownsRow w.heap.size 44 2 ic (rs.length+1) (dN rs++ [.int .i64 a.1,.int .i64 a.2]))(hat: ∀b,ic.ownBlock=some b→va.ownBlock=some b∨W.heap.size≤b) :D7 w (W1.setCell ⟨sb,1,none⟩ ic) kb db mb sb z v l vm aI o vl zs ic f (rs++ [a]) e∧W1.heap[sb]?=some (.cells #[.bool f,va,.int .i64 e] 42) :=by
 obtain⟨hc,hsb⟩ :=h.cur.BU hb ho hat;have hX:But (fun b=>va.ownBlock=some b∨b=sb) W (W1.setCell ⟨sb,1,none⟩ ic) :=(hb.mono fun i _ hi=>aaA hi).set sb 1 ic (aax rfl);have hk: ∀b,(va.ownBlock=some b∨b=sb)→w.heap.size≤b∧∃cs t,W.heap[b]?=some (.cells cs t)∧(t=42∨t=44) :=by
  intro b hB;rcases hB with hB|rfl;·obtain⟨h1,cur,h2⟩ :=aA h.cur.aR hB;exact⟨h1,cur,_,h2,aax rfl⟩
  ·exact⟨h.cur.from_,_,_,h.cur.box,aaA rfl⟩
 exact⟨⟨h.core.but hX hk,UO h.ld hX (fun b hB=>(hk b hB).2),h.nl,hc⟩,hsb⟩
theorem D7.els(h:D7 w W kb db mb sb z v l vm aI o vl zs va f rs e)(x:Int) :D7 w (W.setCell ⟨sb,2,none⟩ (.int .i64 x)) kb db mb sb z v l vm aI o vl zs va f rs x:=by
 have hX:But (fun b=>b=sb) W (W.setCell ⟨sb,2,none⟩ (.int .i64 x)) :=(But.refl _ _).set sb 2 _ rfl;have hk: ∀(b:Nat),b≠sb→(W.setCell ⟨sb,2,none⟩ (.int .i64 x)).heap[b]?=W.heap[b]?:=fun b hb=>ay W sb 2 _ b hb;have hc:=h.cur;have hX2: ∀b,b=sb→w.heap.size≤b∧∃cs t,W.heap[b]?=some (.cells cs t)∧(t=42∨t=44) :=by rintro b rfl;exact⟨hc.from_,_,_,hc.box,aaA rfl⟩
 refine⟨h.core.but hX hX2,UO h.ld hX (fun b hB=>(hX2 b hB).2),h.nl,⟨?_,?_,?_,hc.apart,hc.off,hc.from_⟩⟩;·exact Xg
 ·have:=aL hc.box 2 (.int .i64 x);simpa using this
 ·exact ado
theorem D7.done(h:D7 w W kb db mb sb z v l vm aI o vl zs va f rs e) {v':aaa}(hb:But (fun b=>v.ownBlock=some b) W W1)(ho:W1.ownsRow w.heap.size 42 3 v' (l.length+1) (dS l++ [.bool f,va,.int .i64 e])) :(Dc w (W1.setCell ⟨db,0,none⟩ v') kb db mb z v' vm aI o∧bq (W1.setCell ⟨db,0,none⟩ v') w.heap.size v' (l++ [(va,f,rs,e)]))∧W1.heap[db]?=some (.cells #[v] 25) :=by
 have hp:=h.cur.push hb ho;have h1:Dc w W1 kb db mb z v vm aI o:=h.core.but hb (fun b hB=>by obtain⟨h1,cur,h2⟩ :=aA h.cur.bZ.row hB;exact⟨h1,cur,_,h2,aaA rfl⟩);have ks: ∀b,b≠db→(W1.setCell ⟨db,0,none⟩ v').heap[b]?=W1.heap[b]?:=fun b hb'=>ay W1 db 0 _ b hb';have hX:But (fun b=>b=db) W1 (W1.setCell ⟨db,0,none⟩ v') :=(But.refl _ _).set db 0 _ rfl;refine⟨⟨⟨h1.below.trans (hX.below h1.below.size (fun j hj e'=>by have:=h1.fd;omega)),?_,?_,?_,h1.set.but hX (fun b hB e'=> ?_),h1.nk,h1.fd,h1.fm⟩,?_⟩,h1.jk⟩;·rw[ks _ (by have:=h1.fd;omega)];exact h1.res
 ·rw[ks _ (aN h1.Ce h1.jk (by decide))];exact h1.Ce
 ·have:=aL h1.jk 0 v';simpa using this
 ·subst e';rcases oG h1.set hB h1.jk with e2|e2<;>exact absurd e2 (by decide)
 ·refine hp.congr fun b cs t ht hkk hh=> ?_;rw[ks b (by
   rintro rfl;rw[h1.jk]at hh;simp only[aaY,Obj.cells.injEq]at hh;rcases ht with rfl|rfl;·exact absurd hh.2.1 (by decide)
   ·exact absurd hh.2.1 (by decide))];exact hh
end
def ab8(T:Sys Nat)(W:aab)(base mb:Nat)(vm aI:aaa)(o:List Nat)(c:Nat)(e:Ending)(W1:aab) :Prop:=e= .returned (.int .i64 (T.num (dW T o c) c))∧∃dF bG,bA dX W1 base mb dF bG (aH (dW T o c))∧But (bB mb vm aI) W W1∧∀b,bG.ownBlock=some b→aI.ownBlock=some b∨W.heap.size≤b
theorem Cj(T:Sys Nat)(base kb mb c:Nat)(z:Int)(vm aI:aaa)(o:List Nat)(W:aab)(hT:T.dead c=decide (z=(c:Int)))(hc:c≤1000000)(hk:W.heap[kb]?=some (.cells #[.int .i64 z] 3))(hs:bA dX W base mb vm aI (aH o))(ho:o.length≤1000000)(hbase:base≤W.heap.size) :Calls Tryd.prog 80 #[.int .i64 (c:Int),.pointer (some ⟨kb,0,none⟩),.pointer (some ⟨mb,0,none⟩)] W (ab8 T W base mb vm aI o c) :=by
 have k0:W.cell? ⟨kb,0,none⟩=some (.int .i64 z) :=aj hk 0;have HT:=ah hT;have HP:=ah (uW base mb vm aI (aH o) (c:Int) W ⟨by omega,by omega⟩ (by rw[aK];omega) hbase hs);have HS:=ah hs;clear hT hs;by_cases hz:(c:Int)=z
 ·have hd:T.dead c=true:=by rw[HT.out];exact decide_eq_true hz.symm
  go_enter Tryd.func80,Tryd.ntmps80;go_wp2_with fail;go_ret;refine⟨?_,vm,aI,?_,But.refl _ _,fun b hb=>aaA hb⟩;·unfold Sys.num;rw[if_pos hd];rfl
  ·unfold dW;rw[if_pos hd];exact HS.out
 ·have hd: ¬T.dead c=true:=by rw[HT.out,decide_eq_true_iff];exact fun e=>hz e.symm
  have hm:dW T o c=meet o c:=by unfold dW;rw[if_neg hd]
  go_enter Tryd.func80,Tryd.ntmps80;go_wp2_with fail;refine HP.out.mono ?_;rintro e w1⟨rfl,dF,bG,p1,p2,p3,p4⟩;go_wp2_with fail;go_ret;refine⟨?_,dF,bG,?_,p2,p3⟩;·unfold Sys.num;rw[if_neg hd,hm,←Ju,abJ];rfl
  ·rw[hm,Ju];exact p1
theorem o9(W:aab)(ρ:aar→aaa)(o:aas)(x:aar)(ho:o.op= .load 40 x)(b off:Nat)(v:aaa)(hx:ρ x= .pointer (some ⟨b,off,none⟩))(h0:W.cell? ⟨b,off,none⟩=some v) :(aaw ρ o).run Tryd.prog W= .ok (.value v) W:=by exact vG
theorem qO(W:aab)(ρ:aar→aaa)(o:aas)(x:aar)(ho:o.op= .buildSlice 40 1 #[(0,x)])(a b:Int)(hx:ρ x= .agg #[.int .i64 a,.int .i64 b]) :(aaw ρ o).run Tryd.prog W= .ok (.value (.slice (some ⟨W.heap.size,0,none⟩) 1 1)) (W.alloc (.cells #[.int .i64 a,.int .i64 b] 44)) :=by exact uA
theorem wR(W:aab)(ρ:aar→aaa)(o:aas)(x y:aar)(ho:o.op= .store 40 x y)(b off:Nat)(a:Option Addr)(n c:Nat)(u:aaa)(hx:ρ x= .pointer (some ⟨b,off,none⟩))(hy:ρ y= .slice a n c)(h0:W.cell? ⟨b,off,none⟩=some u)(hf:W.frozen? ⟨b,off,none⟩=false) :(aaw ρ o).run Tryd.prog W= .ok .skip (W.setCell ⟨b,off,none⟩ (.slice a n c)) :=by exact BN
theorem GN(W:aab)(a:Act)(o:aas)(f:FuncId)(x y:aar)(t:TypeId)(ho:o.op= .call {callee:= .value x,args:=#[y],argTypes:=#[t]})(p q u:aaa)(hx:a.eval x= .func (.func f) #[] #[p,q])(hy:a.eval y=u)(hf:(callFunc f #[u,p,q]).run Tryd.prog W= .ok (.enter f #[u,p,q]) W) :(aaw a.eval o).run Tryd.prog W= .ok (.enter f #[u,p,q]) W:=by unfold aaw;simp[ho,resolve,invoke,Deferred.ofValue,hx,hy,hf]
theorem yl {W:aab} {ops:Array aas} {i:Nat} {o:aas} {a:Act} {K:Act→aab→Prop} {Q:Exit→Act→aab→Prop}(vP:ops[i]?=some o)(hw:Region.wanted o (yielded ops a.tmps)=true)(hgd:o.guard=none)(s x:aar)
    (ho:o.op= .call {callee:= .builtin .append,args:=#[s,x],argTypes:=#[40,40]})
    (base:Nat)(v:aaa)(n:Nat)(xs:List aaa)(hs:a.eval s=v)(hown:W.ownsRow base 44 2 v n xs)(p q:Int)(ad:Nat)(had:ad=W.heap.size)(hx:a.eval x= .slice (some ⟨ad,0,none⟩) 1 1)(hb:(n+1)*16≤140737488355328)(hbase:base≤W.heap.size)
    (h: ∀g cap w',w'.ownsRow base 44 2 (.slice (some ⟨g,0,none⟩) (n+1) cap) (n+1) (xs++ [.int .i64 p,.int .i64 q])→But (fun b=>v.ownBlock=some b) W w'→(∀b,(Value.slice (some ⟨g,0,none⟩) (n+1) cap).ownBlock=some b→v.ownBlock=some b∨W.heap.size≤b)→K (a.put o.dst (.slice (some ⟨g,0,none⟩) (n+1) cap)) w') :
    wpOp Tryd.prog ops Q i K a (W.alloc (.cells #[.int .i64 p,.int .i64 q] 44)) :=by
  obtain⟨i0,hi,hz0,hz1,hz2⟩ :=info_parts Tryd.infoArcD
  refine mo vP hw ?_
  have:=lN (ops:=ops) (E:=True) (Q:=Q) hgd s x 40 44 ho i0 (.agg #[.int .i64 0,.int .i64 0]) 2 16 Tryd.underlying40 hi hz0 hz1 hz2 rfl (by decide) base v n xs hs hown #[.int .i64 p,.int .i64 q] rfl (by intro y hy;simp at hy;rcases hy with rfl|rfl<;>rfl) ad had hx hb (by decide) hbase h
  rwa [if_pos hw]at this
def yS(cl:List Int)(aB:List (List Nat))(q:Nat) :List Nat:=(aB.getD q []).map (bn cl)
structure afD(w:aab)(tb gp cp gf cf g3 c3:Nat)(a0 a1 a2 a3 aV:aaa)(bs:List Bool)(cl:List Int)(parts:List (List Nat))(aB:List (List Nat))(S n:Nat) :Prop where
 box:w.heap[tb]?=some (.cells #[a0,a1,a2,a3,aV,.slice (some ⟨gf,0,none⟩) bs.length cf,.slice (some ⟨g3,0,none⟩) cl.length c3,.slice (some ⟨gp,0,none⟩) parts.length cp] 93)
 part: ∀c,c<parts.length→∃gv ov nv cv,w.cell? ⟨gp,c,none⟩=some (.slice (some ⟨gv,ov,none⟩) nv cv)∧0<nv∧w.cell? ⟨gv,ov,none⟩=some (.int .i64 ((gG parts c:Nat) :Int))
 fin: ∀q,q<n→w.cell? ⟨gf,q,none⟩=some (.bool (bs.getD q false))
 afI:w.cell? ⟨g3,0,none⟩=some (.int .i64 ((bn cl 0:Nat) :Int))
 lead: ∀W,aah w.heap.size w W→∀q,q<n→Calls Tryd.prog 81 #[.pointer (some ⟨tb,0,none⟩),.int .i64 (q:Int)] W fun e W'=>∃v,e= .returned v∧W'.ownsRow W.heap.size 3 1 v S (zI (aH (yS cl aB q)))∧aah W.heap.size W W'
 most: ∀W,aah w.heap.size w W→∀q,q<n→∀v,bD W v (aH (yS cl aB q))→Calls Tryd.prog 82 #[.pointer (some ⟨tb,0,none⟩),v] W fun e W'=>e= .returned (.int .i64 (((yS cl aB q).getD (S-1) 0:Nat) :Int))∧aah W.heap.size W W'
 idx: ∀W,aah w.heap.size w W→Calls Tryd.prog 77 #[.slice (some ⟨gp,0,none⟩) parts.length cp,.func (.func 78) #[.pointer (some ⟨tb,0,none⟩)] #[]] W fun e W'=>∃z:Int,e= .returned (.int .i64 z)∧F9 (fun j=>zC bs cl (runs (aB.getD (gG parts j) [])) (gG parts j)) parts.length z∧aah W.heap.size W W'
theorem VX {l:List gT} {aB:List (List Nat)}(hL:l.map (·.2)=aB.map runs) {q:Nat} {u:aaa} {rs:List (Nat×Nat)}(hq:l[q]?=some (u,rs)) :rs=runs (aB.getD q []) :=by exact Zq
theorem abU(w0 w:aab)(base tb bx g3 c3 cs:Nat)(FB:Option Addr)(a0 a1 vk aV bC dw:aaa)(l:List gT)(bs:List Bool)(cl:List Int)(us:List aaa)(parts:List (List Nat))(aB:List (List Nat))(S:Nat)(ct:List Int)(hP:Pt w0 w base tb bx g3 c3 a0 a1 (.slice FB S cs) vk aV bC dw l bs cl us parts)(xI:fQ (aM bs aB) S l.length (bn cl) parts)(hcl:cl.length=l.length)(hcz: ∀z∈cl,0≤z∧z≤1114112)(hpl:parts.length≤257)(hL:l.map (·.2)=aB.map runs)(hbl:bs.length=l.length)(hS: ∀q,q<l.length→(aB.getD q []).length=S∧∀a,a<S→(aB.getD q []).getD a 0<l.length)(hm:S≤1000)(h0:0<l.length)(hn:l.length≤1114112)(hk:bD w vk ct)(hct:JL ct S) : ∃gp cp gf cf,afD w tb gp cp gf cf g3 c3 a0 a1 (.slice FB S cs) vk aV bs cl parts aB S l.length:=by
 have ac7: ∀z∈cl,0≤z:=fun z hz=>(hcz z hz).1;have hSp:=hct.pos;have hp0:0<parts.length:=by have:=xI.lt 0 h0;omega
 have DR:us.length=parts.length:=hP.len;obtain⟨gp,cp,hvp⟩ :=dA hP.pts (by omega);obtain⟨gf,cf,tL⟩ :=dA hP.tab.fin (by omega);obtain⟨gr,cr,Ik⟩ :=dA hP.tab.rows.row (by omega);subst hvp tL Ik;rw[DR]at hP;have WB:=hP.pts;rw[DR]at WB;have hrow: ∀q,q<l.length→∃u,l[q]?=some (u,runs (aB.getD q [])) :=by intro q hq;obtain⟨⟨u,rs⟩,hx⟩ : ∃x,l[q]?=some x:=⟨l[q],aal hq⟩;exact⟨u,by rw[hx,VX hL hx]⟩
 have hnx: ∀q,q<l.length→∀x∈aB.getD q [],x<l.length:=by intro q hq x hx;obtain⟨j,hj⟩ :=List.mem_iff_getElem?.1 hx;have hjl:=(List.getElem?_eq_some_iff.1 hj).1;have:=(hS q hq).2 j (by have:=(hS q hq).1;omega);rw[aap (l:=aB.getD q []),hj]at this;exact this
 have hpart: ∀c,c<parts.length→∃gv ov nv cv,us[c]?=some (.slice (some ⟨gv,ov,none⟩) nv cv)∧0<nv∧gv<w.heap.size∧w.cell? ⟨gv,ov,none⟩=some (.int .i64 ((gG parts c:Nat) :Int)) :=by intro c hc;obtain⟨u,hu⟩ : ∃u,us[c]?=some u:=⟨us[c],aal (by omega)⟩;have hms:=aal hc;obtain⟨hne,_,_⟩ :=xI.told c _ hms;obtain⟨g,off,cap,cur,rfl,h1,_,h3⟩ :=hP.hold c u _ hu hms;have hl0:0<parts[c].length:=List.length_pos_iff.2 hne;refine⟨g,off,_,cap,hu,by rw[aK];exact hl0,(Array.getElem?_eq_some_iff.1 h1).1,?_⟩;have:=h3 0 (by rw[aK];exact hl0);rw[Nat.add_zero,iO _ _ hl0]at this;rw[this];unfold gG;rw[aap (l:=parts),hms];rfl
 refine⟨gp,cp,gf,cf,⟨hP.tab.box,fun c hc=> ?_,fun q hq=> ?_,?_,fun W hW q hq=> ?_,fun W hW q hq v hv=> ?_,fun W hW=> ?_⟩⟩;·obtain⟨gv,ov,nv,cv,h1,h2,_,h4⟩ :=hpart c hc;exact⟨gv,ov,nv,cv,aQ WB h1,h2,h4⟩
 ·refine aQ hP.tab.fin ?_;rw[aaR,aap,aal (by omega)];rfl
 ·have:=aQ hP.tab.cls (p:=0) (u:= .int .i64 (cl.getD 0 0)) (by unfold zI;rw[aaR,aap,aal (by omega)];rfl);rw[this,y8 ac7]
 ·obtain⟨u,hu⟩ :=hrow q hq;have h1:=SI base tb q g3 c3 S cs FB a0 a1 vk u _ _ _ l bs cl (aB.getD q []) W (hP.tab.below hW) hu (hS q hq).1 (by omega) (by omega) (fun x hx=>by rw[hcl];exact hnx q hq x hx) hn;rw[ab0 ac7]at h1;exact h1
 ·have hkl:(yS cl aB q).length=S:=by unfold yS;rw[List.length_map,(hS q hq).1]
  have h1:=Rx tb parts.length cp (some ⟨gp,0,none⟩) vk a0 a1 _ _ _ _ v (yS cl aB q) ct W (aC hP.tab.box hW) hv (hk.below hW) (by rw[hkl,hct.len];omega) (by omega) (by omega) hct.bnd (fun c hc=>by obtain⟨x,hx,rfl⟩ :=List.mem_map.1 hc;exact xI.lt x (hnx q hq x hx)) hpl;rw[SC hct hkl]at h1;exact h1
 ·have hr:W.ownsRow w0.heap.size 56 1 (.slice (some ⟨gp,0,none⟩) us.length cp) us.length us:=by rw[DR];exact own_below WB hW
  have h1:=JC tb w0.heap.size gp cp (fun j=>zC bs cl (runs (aB.getD (gG parts j) [])) (gG parts j)) us W (by omega) hr (fun j u hu=>by
   have hj:j<parts.length:=by have:=(List.getElem?_eq_some_iff.1 hu).1;omega
   obtain⟨gv,ov,nv,cv,h1,_⟩ :=hpart j hj;rw[hu]at h1;cases h1;exact⟨_,_,_,rfl⟩) (fun W2 j u hW2 hu=>by
   have hj:j<parts.length:=by have:=(List.getElem?_eq_some_iff.1 hu).1;omega
   obtain⟨gv,ov,nv,cv,h1,h2,h3,h4⟩ :=hpart j hj;rw[hu]at h1;cases h1;obtain⟨r1,r2⟩ :=zG xI hj;obtain⟨u2,hu2⟩ :=hrow _ r1;have hW3:aah w.heap.size w W2:=hW.trans (hW2.mono hW.size);have Ns:=hP.tab.rows.each _ (List.mem_of_getElem? hu2);have hrn:runs (aB.getD (gG parts j) [])≠ [] :=Dj (by intro e;have:=(hS _ r1).1;rw[e]at this;have:=hct.pos;simp at*;omega);obtain⟨gu,cu,hvu⟩ :=dA Ns (List.length_pos_iff.2 hrn);dsimp only at hvu;subst hvu;exact MN base tb g3 c3 gv ov nv cv gf cf gr cr gu cu (gG parts j) a0 a1 _ vk _ l bs cl (runs (aB.getD (gG parts j) [])) W2 (hP.tab.below hW3) ((hW3.cell (p:=⟨gv,ov,none⟩) h3).trans h4) h2 hu2 (by have:=kX (aB.getD (gG parts j) []) none 0;have h5:=(hS _ r1).1;show(bF none 0 (aB.getD (gG parts j) [])).length≤_;omega) (fun s hs=>by rw[hcl];exact hnx _ r1 _ (sj hs).1) hbl hcl);rw[DR]at h1;exact h1
theorem Kz(W:aab)(ρ:aar→aaa)(o:aas)(x:aar)(ho:o.op= .load 25 x)(b:Nat)(a:Option Addr)(n c:Nat)(hx:ρ x= .pointer (some ⟨b,0,none⟩))(h0:W.cell? ⟨b,0,none⟩=some (.slice a n c)) :(aaw ρ o).run Tryd.prog W= .ok (.value (.agg #[.slice a n c])) W:=by exact vG
theorem pY(W:aab)(ρ:aar→aaa)(o:aas)(x y:aar)(ho:o.op= .store 25 x y)(b:Nat)(a:Option Addr)(n c:Nat)(u:aaa)(hx:ρ x= .pointer (some ⟨b,0,none⟩))(hy:ρ y= .agg #[.slice a n c])(h0:W.cell? ⟨b,0,none⟩=some u)(hf:W.frozen? ⟨b,0,none⟩=false) :(aaw ρ o).run Tryd.prog W= .ok .skip (W.setCell ⟨b,0,none⟩ (.slice a n c)) :=by exact BN
section
variable {ops:Array aas} {rest:List aas} {o:aas} {a:Act} {w:aab} {Q:Exit→Act→aab→Prop}
theorem yj(hgd:o.guard=none)(x:aar)(ho:o.op= .load 25 x)(b:Nat)(s:Option Addr)(n c:Nat)(hx:a.eval x= .pointer (some ⟨b,0,none⟩))(h0:w.cell? ⟨b,0,none⟩=some (.slice s n c))(h:wpList Tryd.prog ops Q rest (a.put o.dst (.agg #[.slice s n c])) w) :wpList Tryd.prog ops Q (o::rest) a w:=by refine wpList_plain hgd fun K hK=> ?_;have:=Kz w a.eval o x ho b s n c hx h0;unfold Oper.wp;simp only[this,Oper.upon];exact hK _ _ h
theorem vF(hgd:o.guard=none)(x y:aar)(ho:o.op= .store 25 x y)(b:Nat)(s:Option Addr)(n c:Nat)(u:aaa)(hx:a.eval x= .pointer (some ⟨b,0,none⟩))(hy:a.eval y= .agg #[.slice s n c])(h0:w.cell? ⟨b,0,none⟩=some u)(hf:w.frozen? ⟨b,0,none⟩=false)(h:wpList Tryd.prog ops Q rest (a.put o.dst undef) (w.setCell ⟨b,0,none⟩ (.slice s n c))) :wpList Tryd.prog ops Q (o::rest) a w:=by refine wpList_plain hgd fun K hK=> ?_;have:=pY w a.eval o x y ho b s n c u hx hy h0 hf;unfold Oper.wp;simp only[this,Oper.upon];exact hK _ _ h
end
end Go.Proofs.YtkbjimkngmlfcaaDoor
