import Derived.Test.YtcjiphknpagenaaGreatDoorDocsJ08
namespace Go.Proofs.YtcjiphknpagenaaGreatDoor
open Go Go.RowKit
set_option linter.unusedVariables false
set_option linter.unusedSimpArgs false
set_option maxRecDepth 100000
set_option maxHeartbeats 16000000
def nG(V:List Vl) :Prop:=V.length≤6∧∀x∈V,x.1.length≤8∧x.2.1.length≤3∧(∀t∈x.2.1,t.length≤5000)∧x.2.2.length≤50
def OI(w:World)(base b:Nat)(ao:Option Addr)(n cap:Nat)(A:Int)(e:Ending)(w':World) :Prop:=∃(kV:List UInt8)(a:Option Addr)(c:Nat)(V':List Vl)(ys':List Value),e= .returned (.agg #[.string ⟨kV.toArray⟩,.slice a V'.length c])∧kV.length≤40∧xM w' base (.slice a V'.length c) V' ys'∧nG V'∧Sx b ao n cap w' A∧But (fun x=>x=b∨base≤x) w w'
def BF(w:World)(base b:Nat)(ao:Option Addr)(n cap:Nat)(A:Int)(g3 g4:Nat)(W:World) :Prop:=∃(kV:List UInt8)(pX:Value)(V':List Vl)(ys':List Value),kV.length≤40∧nG V'∧Sx b ao n cap W A∧But (fun x=>x=b∨base≤x) w W∧W.heap[g3]?=some (.cells #[.string ⟨kV.toArray⟩,pX] 28)∧W.heap[g4]?=some (.cells #[.string ⟨#[]⟩,.slice none 0 0] 28)∧xM W base pX V' ys'
theorem BD.bf {w W:World} {base b:Nat} {ao:Option Addr} {n cap:Nat} {A A':Int} {g3 g4:Nat} {did:List UInt8} {dv:Value} {V:List Vl} {ys:List Value}(h:BD w base b ao n cap A g3 g4 did dv V ys W)(hd:did.length≤40)(hV:nG V)(hA:A≤A') :BF w base b ao n cap A' g3 g4 W:=⟨did,dv,V,ys,hd,hV,h.src.mono hA,h.bel,h.box,h.res,h.doc.v⟩
theorem Ia.b {V:List Vl}(h:Ia V) :nG V:=⟨by have:=h.1;omega,fun x hx=>by obtain⟨h1,h2,h3,h4⟩ :=h.2 x hx;exact⟨h1,by omega,fun t ht=>by have:=h3 t ht;omega,by omega⟩⟩
theorem Ia.at {V:List Vl}(h:Ia V) {k:Nat}(hk:k<V.length) :(V.getD k aQ).1.length≤8∧(V.getD k aQ).2.1.length≤2∧(∀t∈(V.getD k aQ).2.1,t.length≤1000)∧(V.getD k aQ).2.2.length≤2:=h.2 _ (by rw[List.getD_eq_getElem?_getD,List.getElem?_eq_getElem hk];exact List.getElem_mem hk)
theorem nG.set {V:List Vl}(h:Ia V)(k:Nat)(x:Vl)(hx:x.1.length≤8∧x.2.1.length≤3∧(∀t∈x.2.1,t.length≤5000)∧x.2.2.length≤50) :nG (V.set k x) :=⟨by rw[List.length_set];exact h.b.1,fun y hy=>by
 rcases List.mem_or_eq_of_mem_set hy with hy|rfl;·exact h.b.2 y hy
 ·exact hx⟩
theorem Om {W:World} {q:Nat}(y:Nat)(hy:y<3) {t0 t1 t2:List UInt8}(L:Nat)(h0:t0.length≤L)(h1:t1.length≤L)(h2:t2.length≤L)(h:W.heap[q]?=some (.cells #[.string ⟨t0.toArray⟩,.string ⟨t1.toArray⟩,.string ⟨t2.toArray⟩] 9)) : ∃tl:List UInt8,tl.length≤L∧W.cell? ⟨q,y,none⟩=some (.string ⟨tl.toArray⟩) :=by
 rcases(by omega:y=0∨y=1∨y=2)with rfl|rfl|rfl;·exact⟨t0,h0,ah h 0⟩
 ·exact⟨t1,h1,ah h 1⟩
 ·exact⟨t2,h2,ah h 2⟩
theorem Gr {W:World} {q:Nat}(y:Nat)(hy:y<4) {t0 t1 t2 t3:List UInt8}(L:Nat)(h0:t0.length≤L)(h1:t1.length≤L)(h2:t2.length≤L)(h3:t3.length≤L)(h:W.heap[q]?=some (.cells #[.string ⟨t0.toArray⟩,.string ⟨t1.toArray⟩,.string ⟨t2.toArray⟩,.string ⟨t3.toArray⟩] 9)) : ∃tl:List UInt8,tl.length≤L∧W.cell? ⟨q,y,none⟩=some (.string ⟨tl.toArray⟩) :=by
 rcases(by omega:y=0∨y=1∨y=2∨y=3)with rfl|rfl|rfl|rfl;·exact⟨t0,h0,ah h 0⟩
 ·exact⟨t1,h1,ah h 1⟩
 ·exact⟨t2,h2,ah h 2⟩
 ·exact⟨t3,h3,ah h 3⟩
theorem Ou {W:World} {q:Nat}(y:Nat)(hy:y<5) {z0 z1 z2 z3 z4:Int}(h:W.heap[q]?=some (.cells #[.int .i64 z0,.int .i64 z1,.int .i64 z2,.int .i64 z3,.int .i64 z4] 3)) : ∃zl:Int,W.cell? ⟨q,y,none⟩=some (.int .i64 zl) :=by
 rcases(by omega:y=0∨y=1∨y=2∨y=3∨y=4)with rfl|rfl|rfl|rfl|rfl;·exact⟨z0,ah h 0⟩
 ·exact⟨z1,ah h 1⟩
 ·exact⟨z2,ah h 2⟩
 ·exact⟨z3,ah h 3⟩
 ·exact⟨z4,ah h 4⟩
theorem YV {T:List (List UInt8)} {x:List UInt8}(h: ∀t∈T,t.length≤5000)(hx:x.length≤5000) : ∀t∈T++ [x],t.length≤5000:=fun t ht=>by
 rcases List.mem_append.1 ht with ht|ht;·exact h t ht
 ·rw[List.mem_singleton.1 ht];exact hx
theorem yG {W:World} {base e sz gv m c N:Nat} {xs:List Value}(h:W.ownsRow base e sz (.slice (some ⟨gv,0,none⟩) m c) N xs)(hm:m=N)(j:Nat) :W.frozen? ⟨gv,j,none⟩=false:=by subst hm;exact h.frozenAt j
section
variable {w W W':World} {base b:Nat} {ao:Option Addr} {n cap:Nat} {A A':Int} {g3 g4 gv m c k:Nat} {did f:List UInt8} {V:List Vl} {ys:List Value} {T:List (List UInt8)} {Z:List Int}
theorem BD.QE {v:Value}(h:BD w base b ao n cap A g3 g4 did (.slice (some ⟨gv,0,none⟩) m c) V ys W)(hm:m=V.length)(hk:k<m)(hv:ys[k*3+1]?=some v)(hx:V.getD k aQ=(f,T,Z)) :W.ownsRow base 9 1 v T.length (sC T) :=by obtain⟨_,⟨v1,q1,q2⟩,_⟩ :=h.doc.val k (by omega);rw[hv]at q1;cases q1;rw[hx]at q2;exact q2
theorem BD.Gy {v:Value}(h:BD w base b ao n cap A g3 g4 did (.slice (some ⟨gv,0,none⟩) m c) V ys W)(hm:m=V.length)(hk:k<m)(hv:ys[k*3+2]?=some v)(hx:V.getD k aQ=(f,T,Z)) :W.ownsRow base 3 1 v Z.length (zC Z) :=by obtain⟨_,_,v2,q3,q4⟩ :=h.doc.val k (by omega);rw[hv]at q3;cases q3;rw[hx]at q4;exact q4
theorem BD.Ui {u0 u1 u2 v:Value} {e nn r:Nat} {xs:List Value}(h:BD w base b ao n cap A g3 g4 did (.slice (some ⟨gv,0,none⟩) m c) V ys W)(hm:m=V.length)(hk:k<m)(h0:ys[k*3]?=some u0)(h1:ys[k*3+1]?=some u1)(h2:ys[k*3+2]?=some u2)(hv:ys[k*3+r]?=some v)(hr:W.ownsRow base e 1 v nn xs)(he:e≠43∧e≠28)(hg:W.grownBy W' v.ownBlock) :SB g3 gv k (.slice (some ⟨gv,0,none⟩) m c) u0 u1 u2 W'∧∀j,W'.frozen? ⟨gv,j,none⟩=false:=by subst hm;have hrow:=h.doc.row;have hrow':W'.ownsRow base 43 3 (.slice (some ⟨gv,0,none⟩) V.length c) V.length ys:=cz hrow fun y hy=>hg.block y (gu hrow hy) (fun e'=>gI hrow hr (Ne.symm he.1) hy e'.symm);have hbx:W'.heap[g3]?=_:=(kP hg).blk h.box (dO hr h.box he.2);exact⟨⟨ah hbx 1,(hrow'.cellAt (k*3) (by omega)).trans h0,(hrow'.cellAt (k*3+1) (by omega)).trans h1,(hrow'.cellAt (k*3+2) (by omega)).trans h2⟩,fun j=>hrow'.frozenAt j⟩
end
section
variable {w W W':World} {base b:Nat} {ao:Option Addr} {n cap:Nat} {A A':Int} {g3 g4 gv m c k:Nat} {did f:List UInt8} {V:List Vl} {ys:List Value}
theorem nG.Xv {V:List Vl}(h:nG V)(k:Nat)(x:Vl)(hx:x.1.length≤8∧x.2.1.length≤3∧(∀t∈x.2.1,t.length≤5000)∧x.2.2.length≤50) :nG (V.set k x) :=⟨by rw[List.length_set];exact h.1,fun y hy=>by
 rcases List.mem_or_eq_of_mem_set hy with hy|rfl;·exact h.2 y hy
 ·exact hx⟩
theorem BD.ac2 {u0 u1 u2 pX:Value}(h:BD w base b ao n cap A g3 g4 did (.slice (some ⟨gv,0,none⟩) m c) V ys W)(hm:m=V.length)(hk:k<m)(h0:ys[k*3]?=some u0)(h1:ys[k*3+1]?=some u1)(h2:ys[k*3+2]?=some u2)(ho:W'.ownsRow base 43 3 pX (m+1) (ys++ [u0,u1,u2]))(hg:W.grownBy W' (Value.slice (some ⟨gv,0,none⟩) m c).ownBlock)(hd:did.length≤40)(hV:Ia V)(hA:A≤A') :BF w base b ao n cap A' g3 g4 (W'.setCell ⟨g3,1,none⟩ pX) :=by
 subst hm;have hrow:=h.doc.row;have hb:=kP hg;have hgv:=dH hrow rfl;have k3:W'.heap[g3]?=_:=hb.blk h.box (dO hrow h.box (by decide));have k4:W'.heap[g4]?=_:=hb.blk h.res (dO hrow h.res (by decide));have hX: ∀x,x<base→¬((Value.slice (some ⟨gv,0,none⟩) V.length c).ownBlock=some x) :=fun x hx e=>by have:=(dH hrow e).1;omega
 have hs:Sx b ao n cap W' A:=h.src.Gw hb (fun e=>by obtain⟨_,cur,hc⟩ :=dH hrow e;exact h.src.Cm hc (by decide) rfl) (fun j hj=>by obtain⟨blk,off,q1,q2⟩ :=h.cb j hj;exact⟨blk,off,q1,Nat.lt_of_lt_of_le q2 h.size,hX blk q2⟩);have hbel:But (fun x=>x=b∨base≤x) w W':=h.bel.more (hb.mono fun i _ e=>Or.inr (dH hrow e).1);have hxl:=h.xl;refine⟨did,pX,V++ [V.getD k aQ],ys++ [u0,u1,u2],hd,⟨by have:=hV.1;simp;omega,fun x hx=> ?_⟩,(hs.set g3 1 _ (hs.Cm k3 (by decide)) (fun j hj=>by obtain⟨blk,off,q1,q2⟩ :=h.cb j hj;exact⟨blk,off,q1,by omega⟩)).mono hA,hbel.set g3 1 _ (Or.inr hxl),aV k3 1 _,(au _ _ _ _ _ h.ne).trans k4,(h.doc.dup hk h0 h1 h2 ho hg).keep (gM.set k3 (by decide) (by decide) (by decide))⟩;rcases List.mem_append.1 hx with hx|hx;·exact hV.b.2 x hx
 ·rw[List.mem_singleton.1 hx];obtain⟨q1,q2,q3,q4⟩ :=hV.at hk;exact⟨q1,by omega,fun t ht=>by have:=q3 t ht;omega,by omega⟩
theorem BF.end {kV:List UInt8} {V':List Vl} {ys':List Value} {a':Option Addr} {N c':Nat}(hN:V'.length=N)(hd:kV.length≤40)(hV:nG V')(hs:Sx b ao n cap W A)(hb:But (fun x=>x=b∨base≤x) w W)(h4:W.heap[g4]?=some (.cells #[.string ⟨#[]⟩,.slice none 0 0] 28))(hdv:xM W base (.slice a' N c') V' ys')(NA:base≤g4)(hcb: ∀j,j<n→∃blk off,ao=some ⟨blk,off,none⟩∧blk<base)(hA:A≤A') :OI w base b ao n cap A' (.returned (.agg #[.string ⟨kV.toArray⟩,.slice a' N c'])) ((W.setCell ⟨g4,0,none⟩ (.string ⟨kV.toArray⟩)).setCell ⟨g4,1,none⟩ (.slice a' N c')) :=by
 subst hN;have hn4:g4≠b:=hs.Cm h4 (by decide);have hc: ∀j,j<n→∃blk off,ao=some ⟨blk,off,none⟩∧blk≠g4:=fun j hj=>by obtain⟨blk,off,q1,q2⟩ :=hcb j hj;exact⟨blk,off,q1,by omega⟩
 exact⟨kV,a',c',V',ys',rfl,hd,hdv.keep ((gM.set (k:=0) (u:= .string ⟨kV.toArray⟩) h4 (by decide) (by decide) (by decide)).trans (gM.set (k:=1) (u:= .slice a' V'.length c') (aV h4 0 (.string ⟨kV.toArray⟩)) (by decide) (by decide) (by decide))),hV,((hs.set g4 0 _ hn4 hc).set g4 1 _ hn4 hc).mono hA,(hb.set g4 0 _ (Or.inr NA)).set g4 1 _ (Or.inr NA)⟩
end
theorem MU (b : Nat) (ao : Option Addr) (n cap : Nat) (A : Int) (w : World) (base : Nat) (did : List UInt8) (dv : Value) (V : List Vl) (ys : List Value) (hn : n ≤ 1048576) (hA : A ≤ 100000) (hs : Sx b ao n cap w A) (hcb : ∀ j, j < n → ∃ blk off, ao = some ⟨blk, off, none⟩ ∧ blk < base) (hbs : base ≤ w.heap.size) (DL : iJ w base dv V ys) (hSm : Ia V) (hdl : did.length ≤ 3) :
    Calls Tryz.prog 17 #[.pointer (some ⟨b, 0, none⟩), .agg #[.string ⟨did.toArray⟩, dv]] w (OI w base b ao n cap (A + 200)) := by
  obtain ⟨ad, cd, rfl⟩ := ji DL.row
  obtain ⟨NV, BO⟩ : ∃ N, V.length = N := ⟨_, rfl⟩
  rw [BO] at DL ⊢
  have wU := aa BO
  have uH := aa hSm
  have Ih : NV ≤ 5 := by have := hSm.1; omega
  have HB0 : Hid (Below w.heap.size w ((w.alloc (.cells #[.string ⟨did.toArray⟩, .slice ad NV cd] 28)).alloc (.cells #[.string ⟨#[]⟩, .slice none 0 0] 28))) := ((Below.refl _ _).alloc (Nat.le_refl _) _).alloc (by simp) _
  have HD0 : Hid (BD w base b ao n cap A w.heap.size (w.heap.size + 1) did (.slice ad NV cd) V ys ((w.alloc (.cells #[.string ⟨did.toArray⟩, .slice ad NV cd] 28)).alloc (.cells #[.string ⟨#[]⟩, .slice none 0 0] 28))) := by
    refine ⟨hs.below HB0.out, But.of_below HB0.out, (Below.heap_alloc _ _ _ (by simp)).trans (heap_alloc_new w _), ?_, DL.keep (gM.below HB0.out), hbs, hbs, by omega, by omega, hcb⟩
    have := heap_alloc_new (w.alloc (.cells #[.string ⟨did.toArray⟩, .slice ad NV cd] 28)) (.cells #[.string ⟨#[]⟩, .slice none 0 0] 28)
    simpa using this
  clear hs hcb DL hSm HB0 BO
  go_enter Tryz.func17, Tryz.ntmps17
  go_upto_region 1 with fail
  obtain ⟨g3, hg3⟩ : ∃ g, w.heap.size = g := ⟨_, rfl⟩
  obtain ⟨g4, hg4⟩ : ∃ g, w.heap.size + 1 = g := ⟨_, rfl⟩
  rw [hg4, hg3] at HD0
  simp only [hg4]
  simp only [hg3]
  clear hg3 hg4
  generalize (w.alloc (.cells #[.string ⟨did.toArray⟩, .slice ad NV cd] 28)).alloc (.cells #[.string ⟨#[]⟩, .slice none 0 0] 28) = w1 at *
  have z0 := ah HD0.out.box 0
  have z1 := ah HD0.out.box 1
  simp only [List.getElem?_toArray, List.getElem?_cons_zero, List.getElem?_cons_succ] at z0 z1
  by_cases hV0 : NV = 0
  · subst hV0
    have r0 := ah HD0.out.res 0
    have r1 := ah HD0.out.res 1
    have f0 := aC HD0.out.res 0
    have f1 := aC HD0.out.res 1
    simp only [List.getElem?_toArray, List.getElem?_cons_zero, List.getElem?_cons_succ] at r0 r1
    go_wp2
    have k1 := aV (aV HD0.out.res 0 (.string ⟨did.toArray⟩)) 1 (.slice ad 0 cd)
    have hfin := BF.end (kV := did) (A' := A + 200) wU.out (by omega) uH.out.b HD0.out.src HD0.out.bel HD0.out.res HD0.out.doc.v HD0.out.rl HD0.out.cb (by omega)
    refine bodyPost_ret (v := .agg #[.string ⟨did.toArray⟩, .slice ad 0 cd]) ?_ rfl hfin
    clear hfin z0 z1 r0 r1 f0 f1
    generalize (w1.setCell ⟨g4, 0, none⟩ (.string ⟨did.toArray⟩)).setCell ⟨g4, 1, none⟩ (.slice ad 0 cd) = wf at *
    have z0 := ah k1 0
    have z1 := ah k1 1
    simp at z0 z1
    simp [results, Tryz.results17, go_sem, z0, z1]
  · have Yx : ((NV : Int) == 0) = false := by simp; omega
    obtain ⟨gv, rfl⟩ : ∃ gv, ad = some ⟨gv, 0, none⟩ := by
      rcases HD0.out.doc.row.2 with ⟨_, h2⟩ | ⟨g, cap', cur, h1, _⟩
      · exact absurd h2 (by have := wU.out; omega)
      · injection h1 with h1
        exact ⟨g, h1⟩
    go_wp2_with fail
    refine (dx HD0.out.src hn (by omega) NV (by omega) (by omega)).mono ?_
    rintro e w2 ⟨k, rfl, hk, hs2, hb2⟩
    have HD1 := aa (HD0.out.draw hs2 hb2)
    clear hs2 hb2 HD0 z0 z1
    have hkN : k < NV := by omega
    go_upto_block 0 with (go_at_call 38; refine (dx HD1.out.src hn (by omega) 14 (by omega) (by omega)).mono ?_; rintro e w3 ⟨r, rfl, hr, hs3, hb3⟩)
    have HD2 := aa (HD1.out.draw hs3 hb3)
    clear hs3 hb3 HD1
    have HM : Hid (NV = V.length) := wU.out.symm
    obtain ⟨⟨f, T, Z⟩, hX⟩ : ∃ x, V.getD k aQ = x := ⟨_, rfl⟩
    have HX := aa hX
    have jl : Hid (f.length ≤ 8 ∧ T.length ≤ 2 ∧ (∀ t ∈ T, t.length ≤ 1000) ∧ Z.length ≤ 2) := by
      have := uH.out.at (k := k) (by have := HM.out; omega)
      rw [hX] at this
      exact this
    obtain ⟨q0, ⟨v1, q1, q2⟩, v2, q3, q4⟩ := HD2.out.doc.val k (by have := HM.out; omega)
    rw [hX] at q0 q2 q4
    obtain ⟨a1, c1, rfl⟩ := ji q2
    obtain ⟨a2, c2, rfl⟩ := ji q4
    have bP : Hid (ys[k * 3]? = some (.string ⟨f.toArray⟩)) := q0
    have bD : Hid (ys[k * 3 + 1]? = some (.slice a1 T.length c1)) := q1
    have bG : Hid (ys[k * 3 + 2]? = some (.slice a2 Z.length c2)) := q3
    clear q0 q1 q2 q3 q4 hX
    have hTl : T.length ≤ 2 := jl.out.2.1
    have hZl : Z.length ≤ 2 := jl.out.2.2.2
    obtain ⟨rz, hrz⟩ : ∃ z : Int, (r : Int) = z := ⟨_, rfl⟩
    simp only [hrz]
    clear hrz
    go_cut [] (fun wy => BF w base b ao n cap (A + 150) g3 g4 wy)
    case first =>
      by_cases h1 : rz = 1
      · subst h1
        go_upto_region 8 with fail
        refine jN (SB g3 gv k (.slice (some ⟨gv, 0, none⟩) NV cd) (.string ⟨f.toArray⟩) (.slice a1 T.length c1) (.slice a2 Z.length c2)) 10 (by kernel_rfl) ?_
        have hbd : Below w3.heap.size w3 ({ heap := w3.heap, tape := w3.tape, drawn := w3.drawn + 1, os := w3.os, output := w3.output } : World) := (Below.refl _ _).drew
        generalize ({ heap := w3.heap, tape := w3.tape, drawn := w3.drawn + 1, os := w3.os, output := w3.output } : World) = KE at *
        have H2 := aa (HD2.out.below hbd)
        clear hbd
        try refine te ?_
        refine ep 0 (H2.out.sb HM.out hkN bP.out bD.out bG.out) ?_
        refine el 1 [8, 9, 10] (H2.out.sb HM.out hkN bP.out bD.out bG.out) (fun u hu => nN u _ _ _ rfl g3 1 _ ⟨_, _, _, rfl⟩ (by kernel_rfl) hu.1) ?_ (v := (.slice (some ⟨gv, 0, none⟩) NV cd))
        refine ep 2 (H2.out.sb HM.out hkN bP.out bD.out bG.out) ?_
        refine ep 4 (H2.out.sb HM.out hkN bP.out bD.out bG.out) ?_
        refine vo 3 5 (by kernel_rfl) ?_ ?_
        · refine aU _ _ rfl (by kernel_rfl) (IU _ _ _ _ _ _ rfl ⟨#[]⟩ ⟨#[110, 111, 112, 101]⟩ ⟨#[122, 122, 122]⟩ (by kernel_rfl) (by kernel_rfl) (by kernel_rfl)) ?_
          have q6l : Hid (b < KE.heap.size) := H2.out.src.lt
          have hba : Below KE.heap.size KE (KE.alloc (.cells #[.string ⟨#[]⟩, .string ⟨#[110, 111, 112, 101]⟩, .string ⟨#[122, 122, 122]⟩] 9)) := (Below.refl _ _).alloc (Nat.le_refl _) _
          have H4 := aa (H2.out.below hba)
          have T5 := aa (heap_alloc_new KE (.cells #[.string ⟨#[]⟩, .string ⟨#[110, 111, 112, 101]⟩, .string ⟨#[122, 122, 122]⟩] 9))
          clear hba
          refine ⟨Or.inr (H4.out.sb HM.out hkN bP.out bD.out bG.out), ?_⟩
          try refine te ?_
          obtain ⟨q6, hq6⟩ : ∃ g, KE.heap.size = g := ⟨_, rfl⟩
          rw [hq6] at T5 q6l
          simp only [hq6]
          clear hq6
          generalize KE.alloc (.cells #[.string ⟨#[]⟩, .string ⟨#[110, 111, 112, 101]⟩, .string ⟨#[122, 122, 122]⟩] 9) = w3 at *
          refine aP 5 (by kernel_rfl) ?_
          refine bI 38 #[.pointer (some ⟨b, 0, none⟩), .int .i64 3] rfl (by kernel_rfl) (bK _ _ _ _ _ _ _ _ rfl _ _ (by kernel_rfl) (by kernel_rfl) (Tryz.call38 _ _)) ?_
          refine (dx H4.out.src hn (by omega) 3 (by omega) (by omega)).mono ?_
          rintro e' w7 ⟨y, rfl, hy, hsd, hbb⟩
          have H8 := aa (H4.out.draw hsd hbb)
          have T9 := aa (hbb.blk T5.out (fun e => by have := q6l.out; omega))
          clear hsd hbb
          obtain ⟨tl, htl, hcl⟩ := Om y (by omega) (t0 := []) (t1 := [110, 111, 112, 101]) (t2 := [122, 122, 122]) 8 (by decide) (by decide) (by decide) T9.out
          refine ⟨Or.inr (H8.out.sb HM.out hkN bP.out bD.out bG.out), ?_⟩
          try refine te ?_
          refine ep 6 (H8.out.sb HM.out hkN bP.out bD.out bG.out) ?_ (v := .pointer (some ⟨q6, y, none⟩)) (hx := fun u => vR u _ _ _ _ rfl q6 y 3 (by kernel_rfl) (by kernel_rfl) (by omega) (by omega))
          refine aP 7 (by kernel_rfl) ?_
          refine aU _ _ rfl (by kernel_rfl) (nR _ _ _ _ rfl q6 y ⟨tl.toArray⟩ (by kernel_rfl) hcl) ?_
          refine ⟨Or.inr (H8.out.sb HM.out hkN bP.out bD.out bG.out), ?_⟩
          try refine te ?_
          refine ep 8 (H8.out.sb HM.out hkN bP.out bD.out bG.out) ?_ (v := .pointer (some ⟨gv, k * 3, none⟩)) (hx := fun u => kU u _ _ _ _ rfl gv k NV cd (by kernel_rfl) (by kernel_rfl) hkN (by omega))
          refine ep 9 (H8.out.sb HM.out hkN bP.out bD.out bG.out) ?_
          refine aP 10 (by kernel_rfl) ?_
          refine ek _ rfl (by kernel_rfl) (uR _ _ _ _ _ rfl gv (k * 3 + 0) ⟨tl.toArray⟩ _ (by kernel_rfl) (by kernel_rfl) (H8.out.sb HM.out hkN bP.out bD.out bG.out).2.1 (yG H8.out.doc.row HM.out (k * 3))) ?_
          have HE := aa ((H8.out.Qr HM.out (by have := HM.out; omega) tl).bf (by omega) (nG.set uH.out k _ (by rw [HX.out]; exact ⟨htl, by show T.length ≤ 3; omega, fun t ht => by have := jl.out.2.2.1 t ht; omega, by show Z.length ≤ 50; omega⟩)) (A' := A + 150) (by omega))
          refine ⟨Or.inl (by kernel_rfl), ?_⟩
          try refine te ?_
          refine gD (by kernel_rfl) ?_ _
          go_wp2_with fail
          go_meet
          case rel => exact HE.out
        · refine bI 38 #[.pointer (some ⟨b, 0, none⟩), .int .i64 3] rfl (by kernel_rfl) (bK _ _ _ _ _ _ _ _ rfl _ _ (by kernel_rfl) (by kernel_rfl) (Tryz.call38 _ _)) ?_
          refine (dx H2.out.src hn (by omega) 3 (by omega) (by omega)).mono ?_
          rintro e' lK ⟨y, rfl, hy, hsd, hbb⟩
          have H11 := aa (H2.out.draw hsd hbb)
          clear hsd hbb
          refine ⟨Or.inr (H11.out.sb HM.out hkN bP.out bD.out bG.out), ?_⟩
          try refine te ?_
          refine aP 3 (by kernel_rfl) ?_
          refine aU _ _ rfl (by kernel_rfl) (IU _ _ _ _ _ _ rfl ⟨#[]⟩ ⟨#[110, 111, 112, 101]⟩ ⟨#[122, 122, 122]⟩ (by kernel_rfl) (by kernel_rfl) (by kernel_rfl)) ?_
          have afl : Hid (b < lK.heap.size) := H11.out.src.lt
          have hba : Below lK.heap.size lK (lK.alloc (.cells #[.string ⟨#[]⟩, .string ⟨#[110, 111, 112, 101]⟩, .string ⟨#[122, 122, 122]⟩] 9)) := (Below.refl _ _).alloc (Nat.le_refl _) _
          have Iw := aa (H11.out.below hba)
          have T14 := aa (heap_alloc_new lK (.cells #[.string ⟨#[]⟩, .string ⟨#[110, 111, 112, 101]⟩, .string ⟨#[122, 122, 122]⟩] 9))
          clear hba
          refine ⟨Or.inr (Iw.out.sb HM.out hkN bP.out bD.out bG.out), ?_⟩
          try refine te ?_
          obtain ⟨ZP, XV⟩ : ∃ g, lK.heap.size = g := ⟨_, rfl⟩
          rw [XV] at T14 afl
          simp only [XV]
          clear XV
          generalize lK.alloc (.cells #[.string ⟨#[]⟩, .string ⟨#[110, 111, 112, 101]⟩, .string ⟨#[122, 122, 122]⟩] 9) = zT at *
          obtain ⟨tl, htl, hcl⟩ := Om y (by omega) (t0 := []) (t1 := [110, 111, 112, 101]) (t2 := [122, 122, 122]) 8 (by decide) (by decide) (by decide) T14.out
          refine ep 6 (Iw.out.sb HM.out hkN bP.out bD.out bG.out) ?_ (v := .pointer (some ⟨ZP, y, none⟩)) (hx := fun u => vR u _ _ _ _ rfl ZP y 3 (by kernel_rfl) (by kernel_rfl) (by omega) (by omega))
          refine aP 7 (by kernel_rfl) ?_
          refine aU _ _ rfl (by kernel_rfl) (nR _ _ _ _ rfl ZP y ⟨tl.toArray⟩ (by kernel_rfl) hcl) ?_
          refine ⟨Or.inr (Iw.out.sb HM.out hkN bP.out bD.out bG.out), ?_⟩
          try refine te ?_
          refine ep 8 (Iw.out.sb HM.out hkN bP.out bD.out bG.out) ?_ (v := .pointer (some ⟨gv, k * 3, none⟩)) (hx := fun u => kU u _ _ _ _ rfl gv k NV cd (by kernel_rfl) (by kernel_rfl) hkN (by omega))
          refine ep 9 (Iw.out.sb HM.out hkN bP.out bD.out bG.out) ?_
          refine aP 10 (by kernel_rfl) ?_
          refine ek _ rfl (by kernel_rfl) (uR _ _ _ _ _ rfl gv (k * 3 + 0) ⟨tl.toArray⟩ _ (by kernel_rfl) (by kernel_rfl) (Iw.out.sb HM.out hkN bP.out bD.out bG.out).2.1 (yG Iw.out.doc.row HM.out (k * 3))) ?_
          have HE := aa ((Iw.out.Qr HM.out (by have := HM.out; omega) tl).bf (by omega) (nG.set uH.out k _ (by rw [HX.out]; exact ⟨htl, by show T.length ≤ 3; omega, fun t ht => by have := jl.out.2.2.1 t ht; omega, by show Z.length ≤ 50; omega⟩)) (A' := A + 150) (by omega))
          refine ⟨Or.inl (by kernel_rfl), ?_⟩
          try refine te ?_
          refine gD (by kernel_rfl) ?_ _
          go_wp2_with fail
          go_meet
          case rel => exact HE.out
      · have h1b : (rz == 1) = false := by simpa using h1
        by_cases h2 : rz = 2
        · subst h2
          go_upto_region 10 with fail
          refine jN (SB g3 gv k (.slice (some ⟨gv, 0, none⟩) NV cd) (.string ⟨f.toArray⟩) (.slice a1 T.length c1) (.slice a2 Z.length c2)) 27 (by kernel_rfl) ?_
          have hbd : Below w3.heap.size w3 ({ heap := w3.heap, tape := w3.tape, drawn := w3.drawn + 1, os := w3.os, output := w3.output } : World) := (Below.refl _ _).drew
          generalize ({ heap := w3.heap, tape := w3.tape, drawn := w3.drawn + 1, os := w3.os, output := w3.output } : World) = aiP at *
          have xz := aa (HD2.out.below hbd)
          clear hbd
          try refine te ?_
          refine ep 0 (xz.out.sb HM.out hkN bP.out bD.out bG.out) ?_
          refine el 1 [25, 26, 27] (xz.out.sb HM.out hkN bP.out bD.out bG.out) (fun u hu => nN u _ _ _ rfl g3 1 _ ⟨_, _, _, rfl⟩ (by kernel_rfl) hu.1) ?_ (v := (.slice (some ⟨gv, 0, none⟩) NV cd))
          refine ep 2 (xz.out.sb HM.out hkN bP.out bD.out bG.out) ?_
          refine ep 3 (xz.out.sb HM.out hkN bP.out bD.out bG.out) ?_
          refine el 4 [6, 7, 8, 24, 27] (xz.out.sb HM.out hkN bP.out bD.out bG.out) (fun u hu => nN u _ _ _ rfl g3 1 _ ⟨_, _, _, rfl⟩ (by kernel_rfl) hu.1) ?_ (v := (.slice (some ⟨gv, 0, none⟩) NV cd))
          refine ep 5 (xz.out.sb HM.out hkN bP.out bD.out bG.out) ?_
          refine ep 6 (xz.out.sb HM.out hkN bP.out bD.out bG.out) ?_ (v := .pointer (some ⟨gv, k * 3, none⟩)) (hx := fun u => kU u _ _ _ _ rfl gv k NV cd (by kernel_rfl) (by kernel_rfl) hkN (by omega))
          refine ep 7 (xz.out.sb HM.out hkN bP.out bD.out bG.out) ?_
          refine el 8 [24, 27] (xz.out.sb HM.out hkN bP.out bD.out bG.out) (fun u hu => Dt u _ _ _ rfl gv (k * 3 + 1) _ ⟨_, _, _, rfl⟩ (by kernel_rfl) hu.2.2.1) ?_ (v := (.slice a1 T.length c1))
          refine ep 9 (xz.out.sb HM.out hkN bP.out bD.out bG.out) ?_
          refine ep 13 (xz.out.sb HM.out hkN bP.out bD.out bG.out) ?_
          refine ep 19 (xz.out.sb HM.out hkN bP.out bD.out bG.out) ?_
          refine aP 10 (by kernel_rfl) ?_
          refine bI 38 #[.pointer (some ⟨b, 0, none⟩), .int .i64 2] rfl (by kernel_rfl) (bK _ _ _ _ _ _ _ _ rfl _ _ (by kernel_rfl) (by kernel_rfl) (Tryz.call38 _ _)) ?_
          refine (dx xz.out.src hn (by omega) 2 (by omega) (by omega)).mono ?_
          rintro e' w18 ⟨y1, rfl, hy1, hsd, hbb⟩
          have H19 := aa (xz.out.draw hsd hbb)
          clear hsd hbb
          obtain ⟨K1, hK1⟩ : ∃ K : Nat, 64 + (y1 : Int) = (K : Int) := ⟨64 + y1, by omega⟩
          have bN : IntKind.i64.wrap (K1 : Int) = (K1 : Int) := by rw [IntKind.wrap_i64]; omega
          refine ⟨Or.inr (H19.out.sb HM.out hkN bP.out bD.out bG.out), ?_⟩
          try refine te ?_
          refine ep 11 (H19.out.sb HM.out hkN bP.out bD.out bG.out) ?_ (v := .int .i64 (K1 : Int))
          refine aP 12 (by kernel_rfl) ?_
          refine bI 39 #[.string ⟨#[116]⟩, .int .i64 (K1 : Int)] rfl (by kernel_rfl) (bK _ _ _ _ _ _ _ _ rfl _ _ (by kernel_rfl) (by kernel_rfl) (Tryz.call39 _ _)) ?_
          refine (CB ⟨#[116]⟩ K1 w18 (by decide) (by omega)).mono ?_
          rintro e' w20 ⟨l1, rfl, Bj, hbb⟩
          have hl1 : l1.length ≤ K1 := by have h1 : (⟨#[116]⟩ : ByteArray).size = 1 := rfl; rw [h1] at Bj; omega
          have H21 := aa (H19.out.below hbb)
          clear hbb Bj
          refine ⟨Or.inr (H21.out.sb HM.out hkN bP.out bD.out bG.out), ?_⟩
          try refine te ?_
          refine aP 14 (by kernel_rfl) ?_
          refine bI 38 #[.pointer (some ⟨b, 0, none⟩), .int .i64 2] rfl (by kernel_rfl) (bK _ _ _ _ _ _ _ _ rfl _ _ (by kernel_rfl) (by kernel_rfl) (Tryz.call38 _ _)) ?_
          refine (dx H21.out.src hn (by omega) 2 (by omega) (by omega)).mono ?_
          rintro e' w22 ⟨y2, rfl, hy2, hsd, hbb⟩
          have YQ := aa (H21.out.draw hsd hbb)
          clear hsd hbb
          obtain ⟨K2, hK2⟩ : ∃ K : Nat, 4000 + (y2 : Int) = (K : Int) := ⟨4000 + y2, by omega⟩
          have hwb : IntKind.i64.wrap (K2 : Int) = (K2 : Int) := by rw [IntKind.wrap_i64]; omega
          obtain ⟨K3, hK3⟩ : ∃ K : Nat, (K2 : Int) - 20 = (K : Int) := ⟨K2 - 20, by omega⟩
          have hwc : IntKind.i64.wrap (K3 : Int) = (K3 : Int) := by rw [IntKind.wrap_i64]; omega
          refine ⟨Or.inr (YQ.out.sb HM.out hkN bP.out bD.out bG.out), ?_⟩
          try refine te ?_
          refine ep 15 (YQ.out.sb HM.out hkN bP.out bD.out bG.out) ?_ (v := .int .i64 (K2 : Int))
          refine ep 16 (YQ.out.sb HM.out hkN bP.out bD.out bG.out) ?_ (v := .int .i64 (K3 : Int))
          refine aP 17 (by kernel_rfl) ?_
          refine bI 39 #[.string ⟨#[117]⟩, .int .i64 (K3 : Int)] rfl (by kernel_rfl) (bK _ _ _ _ _ _ _ _ rfl _ _ (by kernel_rfl) (by kernel_rfl) (Tryz.call39 _ _)) ?_
          refine (CB ⟨#[117]⟩ K3 w22 (by decide) (by omega)).mono ?_
          rintro e' KM ⟨l2, rfl, ab6, hbb⟩
          have hl2 : l2.length ≤ K3 := by have h1 : (⟨#[117]⟩ : ByteArray).size = 1 := rfl; rw [h1] at ab6; omega
          have Sr := aa (YQ.out.below hbb)
          clear hbb ab6
          refine ⟨Or.inr (Sr.out.sb HM.out hkN bP.out bD.out bG.out), ?_⟩
          try refine te ?_
          refine vo 18 20 (by kernel_rfl) ?_ ?_
          · refine aU _ _ rfl (by kernel_rfl) (GZ _ _ _ _ _ _ _ rfl ⟨#[]⟩ ⟨#[255]⟩ ⟨l1.toArray⟩ ⟨l2.toArray⟩ (by kernel_rfl) (by kernel_rfl) (by kernel_rfl) (by kernel_rfl)) ?_
            have acS : Hid (b < KM.heap.size) := Sr.out.src.lt
            have hba : Below KM.heap.size KM (KM.alloc (.cells #[.string ⟨#[]⟩, .string ⟨#[255]⟩, .string ⟨l1.toArray⟩, .string ⟨l2.toArray⟩] 9)) := (Below.refl _ _).alloc (Nat.le_refl _) _
            have H27 := aa (Sr.out.below hba)
            have T28 := aa (heap_alloc_new KM (.cells #[.string ⟨#[]⟩, .string ⟨#[255]⟩, .string ⟨l1.toArray⟩, .string ⟨l2.toArray⟩] 9))
            clear hba
            refine ⟨Or.inr (H27.out.sb HM.out hkN bP.out bD.out bG.out), ?_⟩
            try refine te ?_
            obtain ⟨q29, WI⟩ : ∃ g, KM.heap.size = g := ⟨_, rfl⟩
            rw [WI] at T28 acS
            simp only [WI]
            clear WI
            generalize KM.alloc (.cells #[.string ⟨#[]⟩, .string ⟨#[255]⟩, .string ⟨l1.toArray⟩, .string ⟨l2.toArray⟩] 9) = w26 at *
            refine aP 20 (by kernel_rfl) ?_
            refine bI 38 #[.pointer (some ⟨b, 0, none⟩), .int .i64 4] rfl (by kernel_rfl) (bK _ _ _ _ _ _ _ _ rfl _ _ (by kernel_rfl) (by kernel_rfl) (Tryz.call38 _ _)) ?_
            refine (dx H27.out.src hn (by omega) 4 (by omega) (by omega)).mono ?_
            rintro e' Mk ⟨y, rfl, hy, hsd, hbb⟩
            have SN := aa (H27.out.draw hsd hbb)
            have T32 := aa (hbb.blk T28.out (fun e => by have := acS.out; omega))
            clear hsd hbb
            obtain ⟨tl, htl, hcl⟩ := Gr y (by omega) (t0 := []) (t1 := [255]) (t2 := l1) (t3 := l2) 5000 (by decide) (by decide) (by omega) (by omega) T32.out
            refine ⟨Or.inr (SN.out.sb HM.out hkN bP.out bD.out bG.out), ?_⟩
            try refine te ?_
            refine ep 21 (SN.out.sb HM.out hkN bP.out bD.out bG.out) ?_ (v := .pointer (some ⟨q29, y, none⟩)) (hx := fun u => vR u _ _ _ _ rfl q29 y 4 (by kernel_rfl) (by kernel_rfl) (by omega) (by omega))
            refine aP 22 (by kernel_rfl) ?_
            refine aU _ _ rfl (by kernel_rfl) (nR _ _ _ _ rfl q29 y ⟨tl.toArray⟩ (by kernel_rfl) hcl) ?_
            refine ⟨Or.inr (SN.out.sb HM.out hkN bP.out bD.out bG.out), ?_⟩
            try refine te ?_
            refine aP 23 (by kernel_rfl) ?_
            refine aU _ _ rfl (by kernel_rfl) (yI _ _ _ _ rfl ⟨tl.toArray⟩ (by kernel_rfl)) ?_
            have afJ : Hid (b < Mk.heap.size) := SN.out.src.lt
            have hba : Below Mk.heap.size Mk (Mk.alloc (.cells #[.string ⟨tl.toArray⟩] 9)) := (Below.refl _ _).alloc (Nat.le_refl _) _
            have OC := aa (SN.out.below hba)
            have T35 := aa (heap_alloc_new Mk (.cells #[.string ⟨tl.toArray⟩] 9))
            clear hba
            refine ⟨Or.inr (OC.out.sb HM.out hkN bP.out bD.out bG.out), ?_⟩
            try refine te ?_
            obtain ⟨q36, WX⟩ : ∃ g, Mk.heap.size = g := ⟨_, rfl⟩
            rw [WX] at T35 afJ
            simp only [WX]
            clear WX
            generalize Mk.alloc (.cells #[.string ⟨tl.toArray⟩] 9) = w33 at *
            refine aP 24 (by kernel_rfl) ?_
            refine Dk rfl (by kernel_rfl) _ _ rfl base _ T (by kernel_rfl) (OC.out.QE HM.out hkN bD.out HX.out) q36 tl (by kernel_rfl) T35.out (by omega) OC.out.size ?_
            intro g6 c6 w6 N hN ho hgr hloc
            have HE : Hid (BD w base b ao n cap (A + 150) g3 g4 did (.slice (some ⟨gv, 0, none⟩) NV cd) (V.set k (f, T ++ [tl], Z)) (ys.set (k * 3 + 1) (.slice (some ⟨g6, 0, none⟩) N c6)) (w6.setCell ⟨gv, k * 3 + 1, none⟩ (.slice (some ⟨g6, 0, none⟩) N c6))) := by
              have e := hN.out
              subst e
              have := OC.out.LX HM.out (by have := HM.out; omega) bD.out hgr ho hloc
              rw [HX.out] at this
              exact this.mono (by omega)
            have gL := OC.out.Ui HM.out hkN bP.out bD.out bG.out bD.out (OC.out.QE HM.out hkN bD.out HX.out) (by decide) hgr
            refine ⟨Or.inr gL.1, ?_⟩
            try refine te ?_
            refine ep 25 gL.1 ?_ (v := .pointer (some ⟨gv, k * 3, none⟩)) (hx := fun u => kU u _ _ _ _ rfl gv k NV cd (by kernel_rfl) (by kernel_rfl) hkN (by omega))
            refine ep 26 gL.1 ?_
            refine aP 27 (by kernel_rfl) ?_
            refine ek _ rfl (by kernel_rfl) (yH _ _ _ _ _ rfl gv (k * 3 + 1) (some ⟨g6, 0, none⟩) N c6 _ (by kernel_rfl) (by kernel_rfl) gL.1.2.2.1 (gL.2 (k * 3 + 1))) ?_
            refine ⟨Or.inl (by kernel_rfl), ?_⟩
            try refine te ?_
            clear ho hgr hloc gL
            refine gD (by kernel_rfl) ?_ _
            go_wp2_with fail
            go_meet
            case rel => exact HE.out.bf (by omega) (nG.set uH.out k _ ⟨jl.out.1, by have := jl.out.2.1; simp; omega, YV (fun t ht => by have := jl.out.2.2.1 t ht; omega) htl, by have := jl.out.2.2.2; show Z.length ≤ 50; omega⟩) (by omega)
          · refine bI 38 #[.pointer (some ⟨b, 0, none⟩), .int .i64 4] rfl (by kernel_rfl) (bK _ _ _ _ _ _ _ _ rfl _ _ (by kernel_rfl) (by kernel_rfl) (Tryz.call38 _ _)) ?_
            refine (dx Sr.out.src hn (by omega) 4 (by omega) (by omega)).mono ?_
            rintro e' LA ⟨y, rfl, hy, hsd, hbb⟩
            have H38 := aa (Sr.out.draw hsd hbb)
            clear hsd hbb
            refine ⟨Or.inr (H38.out.sb HM.out hkN bP.out bD.out bG.out), ?_⟩
            try refine te ?_
            refine aP 18 (by kernel_rfl) ?_
            refine aU _ _ rfl (by kernel_rfl) (GZ _ _ _ _ _ _ _ rfl ⟨#[]⟩ ⟨#[255]⟩ ⟨l1.toArray⟩ ⟨l2.toArray⟩ (by kernel_rfl) (by kernel_rfl) (by kernel_rfl) (by kernel_rfl)) ?_
            have afT : Hid (b < LA.heap.size) := H38.out.src.lt
            have hba : Below LA.heap.size LA (LA.alloc (.cells #[.string ⟨#[]⟩, .string ⟨#[255]⟩, .string ⟨l1.toArray⟩, .string ⟨l2.toArray⟩] 9)) := (Below.refl _ _).alloc (Nat.le_refl _) _
            have Ry := aa (H38.out.below hba)
            have T41 := aa (heap_alloc_new LA (.cells #[.string ⟨#[]⟩, .string ⟨#[255]⟩, .string ⟨l1.toArray⟩, .string ⟨l2.toArray⟩] 9))
            clear hba
            refine ⟨Or.inr (Ry.out.sb HM.out hkN bP.out bD.out bG.out), ?_⟩
            try refine te ?_
            obtain ⟨q42, XR⟩ : ∃ g, LA.heap.size = g := ⟨_, rfl⟩
            rw [XR] at T41 afT
            simp only [XR]
            clear XR
            generalize LA.alloc (.cells #[.string ⟨#[]⟩, .string ⟨#[255]⟩, .string ⟨l1.toArray⟩, .string ⟨l2.toArray⟩] 9) = Mr at *
            obtain ⟨tl, htl, hcl⟩ := Gr y (by omega) (t0 := []) (t1 := [255]) (t2 := l1) (t3 := l2) 5000 (by decide) (by decide) (by omega) (by omega) T41.out
            refine ep 21 (Ry.out.sb HM.out hkN bP.out bD.out bG.out) ?_ (v := .pointer (some ⟨q42, y, none⟩)) (hx := fun u => vR u _ _ _ _ rfl q42 y 4 (by kernel_rfl) (by kernel_rfl) (by omega) (by omega))
            refine aP 22 (by kernel_rfl) ?_
            refine aU _ _ rfl (by kernel_rfl) (nR _ _ _ _ rfl q42 y ⟨tl.toArray⟩ (by kernel_rfl) hcl) ?_
            refine ⟨Or.inr (Ry.out.sb HM.out hkN bP.out bD.out bG.out), ?_⟩
            try refine te ?_
            refine aP 23 (by kernel_rfl) ?_
            refine aU _ _ rfl (by kernel_rfl) (yI _ _ _ _ rfl ⟨tl.toArray⟩ (by kernel_rfl)) ?_
            have agl : Hid (b < Mr.heap.size) := Ry.out.src.lt
            have hba : Below Mr.heap.size Mr (Mr.alloc (.cells #[.string ⟨tl.toArray⟩] 9)) := (Below.refl _ _).alloc (Nat.le_refl _) _
            have NM := aa (Ry.out.below hba)
            have T45 := aa (heap_alloc_new Mr (.cells #[.string ⟨tl.toArray⟩] 9))
            clear hba
            refine ⟨Or.inr (NM.out.sb HM.out hkN bP.out bD.out bG.out), ?_⟩
            try refine te ?_
            obtain ⟨q46, VG⟩ : ∃ g, Mr.heap.size = g := ⟨_, rfl⟩
            rw [VG] at T45 agl
            simp only [VG]
            clear VG
            generalize Mr.alloc (.cells #[.string ⟨tl.toArray⟩] 9) = w43 at *
            refine aP 24 (by kernel_rfl) ?_
            refine Dk rfl (by kernel_rfl) _ _ rfl base _ T (by kernel_rfl) (NM.out.QE HM.out hkN bD.out HX.out) q46 tl (by kernel_rfl) T45.out (by omega) NM.out.size ?_
            intro g6 c6 w6 N hN ho hgr hloc
            have HE : Hid (BD w base b ao n cap (A + 150) g3 g4 did (.slice (some ⟨gv, 0, none⟩) NV cd) (V.set k (f, T ++ [tl], Z)) (ys.set (k * 3 + 1) (.slice (some ⟨g6, 0, none⟩) N c6)) (w6.setCell ⟨gv, k * 3 + 1, none⟩ (.slice (some ⟨g6, 0, none⟩) N c6))) := by
              have e := hN.out
              subst e
              have := NM.out.LX HM.out (by have := HM.out; omega) bD.out hgr ho hloc
              rw [HX.out] at this
              exact this.mono (by omega)
            have gL := NM.out.Ui HM.out hkN bP.out bD.out bG.out bD.out (NM.out.QE HM.out hkN bD.out HX.out) (by decide) hgr
            refine ⟨Or.inr gL.1, ?_⟩
            try refine te ?_
            refine ep 25 gL.1 ?_ (v := .pointer (some ⟨gv, k * 3, none⟩)) (hx := fun u => kU u _ _ _ _ rfl gv k NV cd (by kernel_rfl) (by kernel_rfl) hkN (by omega))
            refine ep 26 gL.1 ?_
            refine aP 27 (by kernel_rfl) ?_
            refine ek _ rfl (by kernel_rfl) (yH _ _ _ _ _ rfl gv (k * 3 + 1) (some ⟨g6, 0, none⟩) N c6 _ (by kernel_rfl) (by kernel_rfl) gL.1.2.2.1 (gL.2 (k * 3 + 1))) ?_
            refine ⟨Or.inl (by kernel_rfl), ?_⟩
            try refine te ?_
            clear ho hgr hloc gL
            refine gD (by kernel_rfl) ?_ _
            go_wp2_with fail
            go_meet
            case rel => exact HE.out.bf (by omega) (nG.set uH.out k _ ⟨jl.out.1, by have := jl.out.2.1; simp; omega, YV (fun t ht => by have := jl.out.2.2.1 t ht; omega) htl, by have := jl.out.2.2.2; show Z.length ≤ 50; omega⟩) (by omega)
        · have AQ : (rz == 2) = false := by simpa using h2
          by_cases h3 : rz = 3
          · subst h3
            go_upto_region 12 with fail
            refine jN (SB g3 gv k (.slice (some ⟨gv, 0, none⟩) NV cd) (.string ⟨f.toArray⟩) (.slice a1 T.length c1) (.slice a2 Z.length c2)) 18 (by kernel_rfl) ?_
            have hbd : Below w3.heap.size w3 ({ heap := w3.heap, tape := w3.tape, drawn := w3.drawn + 1, os := w3.os, output := w3.output } : World) := (Below.refl _ _).drew
            generalize ({ heap := w3.heap, tape := w3.tape, drawn := w3.drawn + 1, os := w3.os, output := w3.output } : World) = Ef at *
            have xA := aa (HD2.out.below hbd)
            clear hbd
            try refine te ?_
            refine ep 0 (xA.out.sb HM.out hkN bP.out bD.out bG.out) ?_
            refine el 1 [16, 17, 18] (xA.out.sb HM.out hkN bP.out bD.out bG.out) (fun u hu => nN u _ _ _ rfl g3 1 _ ⟨_, _, _, rfl⟩ (by kernel_rfl) hu.1) ?_ (v := (.slice (some ⟨gv, 0, none⟩) NV cd))
            refine ep 2 (xA.out.sb HM.out hkN bP.out bD.out bG.out) ?_
            refine ep 3 (xA.out.sb HM.out hkN bP.out bD.out bG.out) ?_
            refine el 4 [6, 7, 8, 15, 18] (xA.out.sb HM.out hkN bP.out bD.out bG.out) (fun u hu => nN u _ _ _ rfl g3 1 _ ⟨_, _, _, rfl⟩ (by kernel_rfl) hu.1) ?_ (v := (.slice (some ⟨gv, 0, none⟩) NV cd))
            refine ep 5 (xA.out.sb HM.out hkN bP.out bD.out bG.out) ?_
            refine ep 6 (xA.out.sb HM.out hkN bP.out bD.out bG.out) ?_ (v := .pointer (some ⟨gv, k * 3, none⟩)) (hx := fun u => kU u _ _ _ _ rfl gv k NV cd (by kernel_rfl) (by kernel_rfl) hkN (by omega))
            refine ep 7 (xA.out.sb HM.out hkN bP.out bD.out bG.out) ?_
            refine el 8 [15, 18] (xA.out.sb HM.out hkN bP.out bD.out bG.out) (fun u hu => DJ u _ _ _ rfl gv (k * 3 + 2) _ ⟨_, _, _, rfl⟩ (by kernel_rfl) hu.2.2.2) ?_ (v := (.slice a2 Z.length c2))
            refine ep 10 (xA.out.sb HM.out hkN bP.out bD.out bG.out) ?_
            refine vo 9 11 (by kernel_rfl) ?_ ?_
            · refine aU _ _ rfl (by kernel_rfl) (Ic _ _ _ _ _ _ _ _ rfl 0 1000000000000 1000000000001 (-1000000000000) (-1000000000001) (by kernel_rfl) (by kernel_rfl) (by kernel_rfl) (by kernel_rfl) (by kernel_rfl)) ?_
              have abG : Hid (b < Ef.heap.size) := xA.out.src.lt
              have hba : Below Ef.heap.size Ef (Ef.alloc (.cells #[.int .i64 0, .int .i64 1000000000000, .int .i64 1000000000001, .int .i64 (-1000000000000), .int .i64 (-1000000000001)] 3)) := (Below.refl _ _).alloc (Nat.le_refl _) _
              have ZN := aa (xA.out.below hba)
              have T51 := aa (heap_alloc_new Ef (.cells #[.int .i64 0, .int .i64 1000000000000, .int .i64 1000000000001, .int .i64 (-1000000000000), .int .i64 (-1000000000001)] 3))
              clear hba
              refine ⟨Or.inr (ZN.out.sb HM.out hkN bP.out bD.out bG.out), ?_⟩
              try refine te ?_
              obtain ⟨q52, XI⟩ : ∃ g, Ef.heap.size = g := ⟨_, rfl⟩
              rw [XI] at T51 abG
              simp only [XI]
              clear XI
              generalize Ef.alloc (.cells #[.int .i64 0, .int .i64 1000000000000, .int .i64 1000000000001, .int .i64 (-1000000000000), .int .i64 (-1000000000001)] 3) = w49 at *
              refine aP 11 (by kernel_rfl) ?_
              refine bI 38 #[.pointer (some ⟨b, 0, none⟩), .int .i64 5] rfl (by kernel_rfl) (bK _ _ _ _ _ _ _ _ rfl _ _ (by kernel_rfl) (by kernel_rfl) (Tryz.call38 _ _)) ?_
              refine (dx ZN.out.src hn (by omega) 5 (by omega) (by omega)).mono ?_
              rintro e' LP ⟨y, rfl, hy, hsd, hbb⟩
              have Q3 := aa (ZN.out.draw hsd hbb)
              have T55 := aa (hbb.blk T51.out (fun e => by have := abG.out; omega))
              clear hsd hbb
              obtain ⟨zl, hcl⟩ := Ou y (by omega) T55.out
              refine ⟨Or.inr (Q3.out.sb HM.out hkN bP.out bD.out bG.out), ?_⟩
              try refine te ?_
              refine ep 12 (Q3.out.sb HM.out hkN bP.out bD.out bG.out) ?_ (v := .pointer (some ⟨q52, y, none⟩)) (hx := fun u => JO u _ _ _ _ rfl q52 y 5 (by kernel_rfl) (by kernel_rfl) (by omega) (by omega))
              refine aP 13 (by kernel_rfl) ?_
              refine aU _ _ rfl (by kernel_rfl) (Fj _ _ _ _ rfl q52 y zl (by kernel_rfl) hcl) ?_
              refine ⟨Or.inr (Q3.out.sb HM.out hkN bP.out bD.out bG.out), ?_⟩
              try refine te ?_
              refine aP 14 (by kernel_rfl) ?_
              refine aU _ _ rfl (by kernel_rfl) (zH _ _ _ _ rfl zl (by kernel_rfl)) ?_
              have agn : Hid (b < LP.heap.size) := Q3.out.src.lt
              have hba : Below LP.heap.size LP (LP.alloc (.cells #[.int .i64 zl] 3)) := (Below.refl _ _).alloc (Nat.le_refl _) _
              have Od := aa (Q3.out.below hba)
              have T58 := aa (heap_alloc_new LP (.cells #[.int .i64 zl] 3))
              clear hba
              refine ⟨Or.inr (Od.out.sb HM.out hkN bP.out bD.out bG.out), ?_⟩
              try refine te ?_
              obtain ⟨q59, XF⟩ : ∃ g, LP.heap.size = g := ⟨_, rfl⟩
              rw [XF] at T58 agn
              simp only [XF]
              clear XF
              generalize LP.alloc (.cells #[.int .i64 zl] 3) = w56 at *
              refine aP 15 (by kernel_rfl) ?_
              refine xQ rfl (by kernel_rfl) _ _ rfl base _ Z (by kernel_rfl) (Od.out.Gy HM.out hkN bG.out HX.out) q59 zl (by kernel_rfl) T58.out (by omega) Od.out.size ?_
              intro g6 c6 w6 N hN ho hgr hloc
              have HE : Hid (BD w base b ao n cap (A + 150) g3 g4 did (.slice (some ⟨gv, 0, none⟩) NV cd) (V.set k (f, T, Z ++ [zl])) (ys.set (k * 3 + 2) (.slice (some ⟨g6, 0, none⟩) N c6)) (w6.setCell ⟨gv, k * 3 + 2, none⟩ (.slice (some ⟨g6, 0, none⟩) N c6))) := by
                have e := hN.out
                subst e
                have := Od.out.Le HM.out (by have := HM.out; omega) bG.out hgr ho hloc
                rw [HX.out] at this
                exact this.mono (by omega)
              have gL := Od.out.Ui HM.out hkN bP.out bD.out bG.out bG.out (Od.out.Gy HM.out hkN bG.out HX.out) (by decide) hgr
              refine ⟨Or.inr gL.1, ?_⟩
              try refine te ?_
              refine ep 16 gL.1 ?_ (v := .pointer (some ⟨gv, k * 3, none⟩)) (hx := fun u => kU u _ _ _ _ rfl gv k NV cd (by kernel_rfl) (by kernel_rfl) hkN (by omega))
              refine ep 17 gL.1 ?_
              refine aP 18 (by kernel_rfl) ?_
              refine ek _ rfl (by kernel_rfl) (yS _ _ _ _ _ rfl gv (k * 3 + 2) (some ⟨g6, 0, none⟩) N c6 _ (by kernel_rfl) (by kernel_rfl) gL.1.2.2.2 (gL.2 (k * 3 + 2))) ?_
              refine ⟨Or.inl (by kernel_rfl), ?_⟩
              try refine te ?_
              clear ho hgr hloc gL
              refine gD (by kernel_rfl) ?_ _
              go_wp2_with fail
              go_meet
              case rel => exact HE.out.bf (by omega) (nG.set uH.out k _ ⟨jl.out.1, by have := jl.out.2.1; show T.length ≤ 3; omega, fun t ht => by have := jl.out.2.2.1 t ht; omega, by have := jl.out.2.2.2; simp; omega⟩) (by omega)
            · refine bI 38 #[.pointer (some ⟨b, 0, none⟩), .int .i64 5] rfl (by kernel_rfl) (bK _ _ _ _ _ _ _ _ rfl _ _ (by kernel_rfl) (by kernel_rfl) (Tryz.call38 _ _)) ?_
              refine (dx xA.out.src hn (by omega) 5 (by omega) (by omega)).mono ?_
              rintro e' Mg ⟨y, rfl, hy, hsd, hbb⟩
              have H61 := aa (xA.out.draw hsd hbb)
              clear hsd hbb
              refine ⟨Or.inr (H61.out.sb HM.out hkN bP.out bD.out bG.out), ?_⟩
              try refine te ?_
              refine aP 9 (by kernel_rfl) ?_
              refine aU _ _ rfl (by kernel_rfl) (Ic _ _ _ _ _ _ _ _ rfl 0 1000000000000 1000000000001 (-1000000000000) (-1000000000001) (by kernel_rfl) (by kernel_rfl) (by kernel_rfl) (by kernel_rfl) (by kernel_rfl)) ?_
              have afO : Hid (b < Mg.heap.size) := H61.out.src.lt
              have hba : Below Mg.heap.size Mg (Mg.alloc (.cells #[.int .i64 0, .int .i64 1000000000000, .int .i64 1000000000001, .int .i64 (-1000000000000), .int .i64 (-1000000000001)] 3)) := (Below.refl _ _).alloc (Nat.le_refl _) _
              have U8 := aa (H61.out.below hba)
              have T64 := aa (heap_alloc_new Mg (.cells #[.int .i64 0, .int .i64 1000000000000, .int .i64 1000000000001, .int .i64 (-1000000000000), .int .i64 (-1000000000001)] 3))
              clear hba
              refine ⟨Or.inr (U8.out.sb HM.out hkN bP.out bD.out bG.out), ?_⟩
              try refine te ?_
              obtain ⟨q65, VU⟩ : ∃ g, Mg.heap.size = g := ⟨_, rfl⟩
              rw [VU] at T64 afO
              simp only [VU]
              clear VU
              generalize Mg.alloc (.cells #[.int .i64 0, .int .i64 1000000000000, .int .i64 1000000000001, .int .i64 (-1000000000000), .int .i64 (-1000000000001)] 3) = Mf at *
              obtain ⟨zl, hcl⟩ := Ou y (by omega) T64.out
              refine ep 12 (U8.out.sb HM.out hkN bP.out bD.out bG.out) ?_ (v := .pointer (some ⟨q65, y, none⟩)) (hx := fun u => JO u _ _ _ _ rfl q65 y 5 (by kernel_rfl) (by kernel_rfl) (by omega) (by omega))
              refine aP 13 (by kernel_rfl) ?_
              refine aU _ _ rfl (by kernel_rfl) (Fj _ _ _ _ rfl q65 y zl (by kernel_rfl) hcl) ?_
              refine ⟨Or.inr (U8.out.sb HM.out hkN bP.out bD.out bG.out), ?_⟩
              try refine te ?_
              refine aP 14 (by kernel_rfl) ?_
              refine aU _ _ rfl (by kernel_rfl) (zH _ _ _ _ rfl zl (by kernel_rfl)) ?_
              have afC : Hid (b < Mf.heap.size) := U8.out.src.lt
              have hba : Below Mf.heap.size Mf (Mf.alloc (.cells #[.int .i64 zl] 3)) := (Below.refl _ _).alloc (Nat.le_refl _) _
              have OO := aa (U8.out.below hba)
              have T68 := aa (heap_alloc_new Mf (.cells #[.int .i64 zl] 3))
              clear hba
              refine ⟨Or.inr (OO.out.sb HM.out hkN bP.out bD.out bG.out), ?_⟩
              try refine te ?_
              obtain ⟨q69, Xm⟩ : ∃ g, Mf.heap.size = g := ⟨_, rfl⟩
              rw [Xm] at T68 afC
              simp only [Xm]
              clear Xm
              generalize Mf.alloc (.cells #[.int .i64 zl] 3) = w66 at *
              refine aP 15 (by kernel_rfl) ?_
              refine xQ rfl (by kernel_rfl) _ _ rfl base _ Z (by kernel_rfl) (OO.out.Gy HM.out hkN bG.out HX.out) q69 zl (by kernel_rfl) T68.out (by omega) OO.out.size ?_
              intro g6 c6 w6 N hN ho hgr hloc
              have HE : Hid (BD w base b ao n cap (A + 150) g3 g4 did (.slice (some ⟨gv, 0, none⟩) NV cd) (V.set k (f, T, Z ++ [zl])) (ys.set (k * 3 + 2) (.slice (some ⟨g6, 0, none⟩) N c6)) (w6.setCell ⟨gv, k * 3 + 2, none⟩ (.slice (some ⟨g6, 0, none⟩) N c6))) := by
                have e := hN.out
                subst e
                have := OO.out.Le HM.out (by have := HM.out; omega) bG.out hgr ho hloc
                rw [HX.out] at this
                exact this.mono (by omega)
              have gL := OO.out.Ui HM.out hkN bP.out bD.out bG.out bG.out (OO.out.Gy HM.out hkN bG.out HX.out) (by decide) hgr
              refine ⟨Or.inr gL.1, ?_⟩
              try refine te ?_
              refine ep 16 gL.1 ?_ (v := .pointer (some ⟨gv, k * 3, none⟩)) (hx := fun u => kU u _ _ _ _ rfl gv k NV cd (by kernel_rfl) (by kernel_rfl) hkN (by omega))
              refine ep 17 gL.1 ?_
              refine aP 18 (by kernel_rfl) ?_
              refine ek _ rfl (by kernel_rfl) (yS _ _ _ _ _ rfl gv (k * 3 + 2) (some ⟨g6, 0, none⟩) N c6 _ (by kernel_rfl) (by kernel_rfl) gL.1.2.2.2 (gL.2 (k * 3 + 2))) ?_
              refine ⟨Or.inl (by kernel_rfl), ?_⟩
              try refine te ?_
              clear ho hgr hloc gL
              refine gD (by kernel_rfl) ?_ _
              go_wp2_with fail
              go_meet
              case rel => exact HE.out.bf (by omega) (nG.set uH.out k _ ⟨jl.out.1, by have := jl.out.2.1; show T.length ≤ 3; omega, fun t ht => by have := jl.out.2.2.1 t ht; omega, by have := jl.out.2.2.2; simp; omega⟩) (by omega)
          · have h3b : (rz == 3) = false := by simpa using h3
            by_cases h6 : rz = 6
            · subst h6
              go_upto_region 21 with fail
              refine jN (SB g3 gv k (.slice (some ⟨gv, 0, none⟩) NV cd) (.string ⟨f.toArray⟩) (.slice a1 T.length c1) (.slice a2 Z.length c2)) 8 (by kernel_rfl) ?_
              have hbd : Below w3.heap.size w3 ({ heap := w3.heap, tape := w3.tape, drawn := w3.drawn + 1, os := w3.os, output := w3.output } : World) := (Below.refl _ _).drew
              generalize ({ heap := w3.heap, tape := w3.tape, drawn := w3.drawn + 1, os := w3.os, output := w3.output } : World) = DC at *
              have Fe := aa (HD2.out.below hbd)
              clear hbd
              try refine te ?_
              refine ep 0 (Fe.out.sb HM.out hkN bP.out bD.out bG.out) ?_
              refine el 1 [8] (Fe.out.sb HM.out hkN bP.out bD.out bG.out) (fun u hu => nN u _ _ _ rfl g3 1 _ ⟨_, _, _, rfl⟩ (by kernel_rfl) hu.1) ?_ (v := (.slice (some ⟨gv, 0, none⟩) NV cd))
              refine ep 2 (Fe.out.sb HM.out hkN bP.out bD.out bG.out) ?_
              refine el 3 [5, 6, 7, 8] (Fe.out.sb HM.out hkN bP.out bD.out bG.out) (fun u hu => nN u _ _ _ rfl g3 1 _ ⟨_, _, _, rfl⟩ (by kernel_rfl) hu.1) ?_ (v := (.slice (some ⟨gv, 0, none⟩) NV cd))
              refine ep 4 (Fe.out.sb HM.out hkN bP.out bD.out bG.out) ?_
              refine ep 5 (Fe.out.sb HM.out hkN bP.out bD.out bG.out) ?_ (v := .pointer (some ⟨gv, k * 3, none⟩)) (hx := fun u => kU u _ _ _ _ rfl gv k NV cd (by kernel_rfl) (by kernel_rfl) hkN (by omega))
              refine el 6 [7, 8] (Fe.out.sb HM.out hkN bP.out bD.out bG.out) (fun u hu => QU u _ _ _ rfl gv (k * 3) _ _ _ (by kernel_rfl) hu.2.1 hu.2.2.1 hu.2.2.2) ?_ (v := (.agg #[.string ⟨f.toArray⟩, .slice a1 T.length c1, .slice a2 Z.length c2]))
              refine aP 7 (by kernel_rfl) ?_
              refine aU _ _ rfl (by kernel_rfl) (VT _ _ _ _ rfl (.string ⟨f.toArray⟩) (.slice a1 T.length c1) (.slice a2 Z.length c2) (by kernel_rfl)) ?_
              have afN : Hid (b < DC.heap.size) := Fe.out.src.lt
              have hba : Below DC.heap.size DC (DC.alloc (.cells #[.string ⟨f.toArray⟩, .slice a1 T.length c1, .slice a2 Z.length c2] 43)) := (Below.refl _ _).alloc (Nat.le_refl _) _
              have MK := aa (Fe.out.below hba)
              have T80 := aa (heap_alloc_new DC (.cells #[.string ⟨f.toArray⟩, .slice a1 T.length c1, .slice a2 Z.length c2] 43))
              clear hba
              refine ⟨Or.inr (MK.out.sb HM.out hkN bP.out bD.out bG.out), ?_⟩
              try refine te ?_
              obtain ⟨q81, Vs⟩ : ∃ g, DC.heap.size = g := ⟨_, rfl⟩
              rw [Vs] at T80 afN
              simp only [Vs]
              clear Vs
              generalize DC.alloc (.cells #[.string ⟨f.toArray⟩, .slice a1 T.length c1, .slice a2 Z.length c2] 43) = w78 at *
              refine aP 8 (by kernel_rfl) ?_
              refine Ni rfl (by kernel_rfl) _ _ rfl base _ NV ys (by kernel_rfl) (by have := MK.out.doc.row; rw [wU.out] at this; exact this) q81 _ _ _ (by kernel_rfl) T80.out ⟨rfl, rfl, rfl⟩ (by omega) MK.out.size ?_
              intro g6 c6 w6 N hN ho hgr
              have HE : Hid (BF w base b ao n cap (A + 150) g3 g4 (w6.setCell ⟨g3, 1, none⟩ (.slice (some ⟨g6, 0, none⟩) N c6))) := by
                have e := hN.out
                subst e
                exact MK.out.ac2 HM.out hkN bP.out bD.out bG.out ho hgr (by omega) uH.out (by omega)
              have mg := (kP hgr).blk MK.out.box (dO MK.out.doc.row MK.out.box (by decide))
              refine ⟨Or.inl (by kernel_rfl), ?_⟩
              try refine te ?_
              refine aP 9 (by kernel_rfl) ?_
              refine aU (.pointer (some ⟨g3, 1, none⟩)) _ rfl (by kernel_rfl) (by go_simp <;> with_reducible rfl) ?_
              refine ⟨Or.inl (by kernel_rfl), ?_⟩
              try refine te ?_
              refine aP 10 (by kernel_rfl) ?_
              refine ek _ rfl (by kernel_rfl) (XC _ _ _ _ _ rfl g3 1 (some ⟨g6, 0, none⟩) N c6 _ (by kernel_rfl) (by kernel_rfl) (ah mg 1) (aC mg 1)) ?_
              refine ⟨Or.inl (by kernel_rfl), ?_⟩
              try refine te ?_
              clear ho hgr mg
              refine gD (by kernel_rfl) ?_ _
              go_wp2_with fail
              go_meet
              case rel => exact HE.out
            · have YS : (rz == 6) = false := by simpa using h6
              by_cases h4 : rz = 4
              · subst h4
                have HE : Hid (BF w base b ao n cap (A + 150) g3 g4 ((w3.alloc (.cells #[] 9)).setCell ⟨gv, k * 3 + 1, none⟩ (.slice (some ⟨w3.heap.size, 0, none⟩) 0 0))) := by
                  have := HD2.out.LX (T' := []) (v' := .slice (some ⟨w3.heap.size, 0, none⟩) 0 0) HM.out (by have := HM.out; omega) bD.out (World.grownBy_alloc w3 _ _) (Gx (dJ w3 9) HD2.out.size) (Or.inr fun x hx => by have hx' : some w3.heap.size = some x := hx; injection hx' with hx'; omega)
                  refine this.bf (by omega) (nG.set uH.out k _ ?_) (by omega)
                  rw [HX.out]
                  exact ⟨jl.out.1, by show 0 ≤ 3; omega, (fun t ht => (by cases ht)), by show Z.length ≤ 50; omega⟩
                obtain ⟨s0, s1, s2, s3⟩ := (HD2.out.below ((Below.refl _ _).alloc (Nat.le_refl _) (.cells #[] 9))).sb HM.out hkN bP.out bD.out bG.out
                have sf := yG (HD2.out.below ((Below.refl _ _).alloc (Nat.le_refl _) (.cells #[] 9))).doc.row HM.out (k * 3 + 1)
                obtain ⟨p0, p1, p2, p3⟩ := HD2.out.sb HM.out hkN bP.out bD.out bG.out
                have hkz : (k : Int) < (NV : Int) := by omega
                go_wp2_with fail
                go_meet
                case rel => exact HE.out
              · have NA : (rz == 4) = false := by simpa using h4
                by_cases h5 : rz = 5
                · subst h5
                  go_wp2_with fail
                  refine (dx HD2.out.src hn (by omega) 2 (by omega) (by omega)).mono ?_
                  rintro e w4 ⟨y1, rfl, hy1, hs4, hb4⟩
                  have HD3 := aa (HD2.out.draw hs4 hb4)
                  clear hs4 hb4 HD2
                  obtain ⟨K1, hK1⟩ : ∃ K : Nat, (y1 : Int) + 16 = (K : Int) := ⟨y1 + 16, by omega⟩
                  go_wp2_with fail
                  go_loopw [6] (fun iv wx => ∃ (j : Nat) (Z : List Int) (V : List Vl) (ys : List Value), iv = .int .i64 (j : Int) ∧ j ≤ 17 ∧ Z.length + j ≤ 30 ∧ BD w base b ao n cap (A + 20) g3 g4 did (.slice (some ⟨gv, 0, none⟩) NV cd) V ys wx ∧ V.getD k aQ = (f, T, Z) ∧ NV = V.length ∧ nG V) (fun iv _ => (intOf iv).toNat)
                  case atStart => exact ⟨K1, Z, V, ys, rfl, by omega, by omega, HD3.out.mono (by omega), HX.out, HM.out, uH.out.b⟩
                  case round =>
                    obtain ⟨j, Z, V, ys, rfl, hj, hZj, hD, hXv, hMv, hSv⟩ := hrel
                    clear bP bD bG HM HX HD3 hZl uH wU jl
                    have HD := aa hD
                    have HX := aa hXv
                    have HM := aa hMv
                    have Ny := aa hSv
                    clear hD hXv hMv hSv
                    by_cases hj0 : 0 < j
                    · have hjz : (j : Int) > 0 := by omega
                      obtain ⟨q0, ⟨v1, q1, q2⟩, v2, q3, q4⟩ := HD.out.doc.val k (by have := HM.out; omega)
                      rw [HX.out] at q0 q2 q4
                      obtain ⟨a1, c1, rfl⟩ := ji q2
                      obtain ⟨a2, c2, rfl⟩ := ji q4
                      have bP : Hid (ys[k * 3]? = some (.string ⟨f.toArray⟩)) := q0
                      have bD : Hid (ys[k * 3 + 1]? = some (.slice a1 T.length c1)) := q1
                      have bG : Hid (ys[k * 3 + 2]? = some (.slice a2 Z.length c2)) := q3
                      have jl : Hid (f.length ≤ 8 ∧ T.length ≤ 3 ∧ (∀ t ∈ T, t.length ≤ 5000) ∧ Z.length ≤ 50) := by
                        have := Ny.out.2 (V.getD k aQ) (by rw [List.getD_eq_getElem?_getD, List.getElem?_eq_getElem (show k < V.length by have := HM.out; omega)]; exact List.getElem_mem _)
                        rw [HX.out] at this
                        exact this
                      clear q0 q1 q2 q3 q4
                      go_upto_region 19 with fail
                      refine jN (SB g3 gv k (.slice (some ⟨gv, 0, none⟩) NV cd) (.string ⟨f.toArray⟩) (.slice a1 T.length c1) (.slice a2 Z.length c2)) 13 (by kernel_rfl) ?_
                      have hbd : Below wr.heap.size wr ({ heap := wr.heap, tape := wr.tape, drawn := wr.drawn + 1, os := wr.os, output := wr.output } : World) := (Below.refl _ _).drew
                      generalize ({ heap := wr.heap, tape := wr.tape, drawn := wr.drawn + 1, os := wr.os, output := wr.output } : World) = DI at *
                      have Be := aa (HD.out.below hbd)
                      clear hbd
                      try refine te ?_
                      refine ep 0 (Be.out.sb HM.out hkN bP.out bD.out bG.out) ?_
                      refine el 1 [11, 12, 13] (Be.out.sb HM.out hkN bP.out bD.out bG.out) (fun u hu => nN u _ _ _ rfl g3 1 _ ⟨_, _, _, rfl⟩ (by kernel_rfl) hu.1) ?_ (v := (.slice (some ⟨gv, 0, none⟩) NV cd))
                      refine ep 2 (Be.out.sb HM.out hkN bP.out bD.out bG.out) ?_
                      refine ep 3 (Be.out.sb HM.out hkN bP.out bD.out bG.out) ?_
                      refine el 4 [6, 7, 8, 10, 13] (Be.out.sb HM.out hkN bP.out bD.out bG.out) (fun u hu => nN u _ _ _ rfl g3 1 _ ⟨_, _, _, rfl⟩ (by kernel_rfl) hu.1) ?_ (v := (.slice (some ⟨gv, 0, none⟩) NV cd))
                      refine ep 5 (Be.out.sb HM.out hkN bP.out bD.out bG.out) ?_
                      refine ep 6 (Be.out.sb HM.out hkN bP.out bD.out bG.out) ?_ (v := .pointer (some ⟨gv, k * 3, none⟩)) (hx := fun u => kU u _ _ _ _ rfl gv k NV cd (by kernel_rfl) (by kernel_rfl) hkN (by omega))
                      refine ep 7 (Be.out.sb HM.out hkN bP.out bD.out bG.out) ?_
                      refine el 8 [10, 13] (Be.out.sb HM.out hkN bP.out bD.out bG.out) (fun u hu => DJ u _ _ _ rfl gv (k * 3 + 2) _ ⟨_, _, _, rfl⟩ (by kernel_rfl) hu.2.2.2) ?_ (v := (.slice a2 Z.length c2))
                      refine aP 9 (by kernel_rfl) ?_
                      refine aU _ _ rfl (by kernel_rfl) (zH _ _ _ _ rfl 1 (by kernel_rfl)) ?_
                      have afV : Hid (b < DI.heap.size) := Be.out.src.lt
                      have hba : Below DI.heap.size DI (DI.alloc (.cells #[.int .i64 1] 3)) := (Below.refl _ _).alloc (Nat.le_refl _) _
                      have NF := aa (Be.out.below hba)
                      have T86 := aa (heap_alloc_new DI (.cells #[.int .i64 1] 3))
                      clear hba
                      refine ⟨Or.inr (NF.out.sb HM.out hkN bP.out bD.out bG.out), ?_⟩
                      try refine te ?_
                      obtain ⟨q87, XU⟩ : ∃ g, DI.heap.size = g := ⟨_, rfl⟩
                      rw [XU] at T86 afV
                      simp only [XU]
                      clear XU
                      generalize DI.alloc (.cells #[.int .i64 1] 3) = w84 at *
                      refine aP 10 (by kernel_rfl) ?_
                      refine xQ rfl (by kernel_rfl) _ _ rfl base _ Z (by kernel_rfl) (NF.out.Gy HM.out hkN bG.out HX.out) q87 1 (by kernel_rfl) T86.out (by omega) NF.out.size ?_
                      intro g6 c6 w6 N hN ho hgr hloc
                      have HE : Hid (BD w base b ao n cap (A + 20) g3 g4 did (.slice (some ⟨gv, 0, none⟩) NV cd) (V.set k (f, T, Z ++ [1])) (ys.set (k * 3 + 2) (.slice (some ⟨g6, 0, none⟩) N c6)) (w6.setCell ⟨gv, k * 3 + 2, none⟩ (.slice (some ⟨g6, 0, none⟩) N c6))) := by
                        have e := hN.out
                        subst e
                        have := NF.out.Le HM.out (by have := HM.out; omega) bG.out hgr ho hloc
                        rw [HX.out] at this
                        exact this.mono (by omega)
                      have gL := NF.out.Ui HM.out hkN bP.out bD.out bG.out bG.out (NF.out.Gy HM.out hkN bG.out HX.out) (by decide) hgr
                      refine ⟨Or.inr gL.1, ?_⟩
                      try refine te ?_
                      refine ep 11 gL.1 ?_ (v := .pointer (some ⟨gv, k * 3, none⟩)) (hx := fun u => kU u _ _ _ _ rfl gv k NV cd (by kernel_rfl) (by kernel_rfl) hkN (by omega))
                      refine ep 12 gL.1 ?_
                      refine aP 13 (by kernel_rfl) ?_
                      refine ek _ rfl (by kernel_rfl) (yS _ _ _ _ _ rfl gv (k * 3 + 2) (some ⟨g6, 0, none⟩) N c6 _ (by kernel_rfl) (by kernel_rfl) gL.1.2.2.2 (gL.2 (k * 3 + 2))) ?_
                      refine ⟨Or.inl (by kernel_rfl), ?_⟩
                      try refine te ?_
                      clear ho hgr hloc gL
                      refine gD (by kernel_rfl) ?_ _
                      go_wp2_with fail
                      go_roundw
                      · exact ⟨j - 1, Z ++ [1], _, _, by go_num, by omega, by simp; omega, HE.out, uS (by have := HM.out; omega), by rw [List.length_set]; exact HM.out, Ny.out.Xv k _ ⟨jl.out.1, jl.out.2.1, jl.out.2.2.1, by simp; omega⟩⟩
                      · simp [intOf]; omega
                    · have hjz : ¬ (j : Int) > 0 := by omega
                      have HE := aa (HD.out.bf (by omega) Ny.out (A' := A + 150) (by omega))
                      go_wp2_with fail
                      go_meet
                      case rel => exact HE.out
                · have h5b : (rz == 5) = false := by simpa using h5
                  by_cases h0 : rz = 0
                  · subst h0
                    go_wp2_with fail
                    refine (dx HD2.out.src hn (by omega) 2 (by omega) (by omega)).mono ?_
                    rintro e w4 ⟨y1, rfl, hy1, hs4, hb4⟩
                    have HD3 := aa (HD2.out.draw hs4 hb4)
                    clear hs4 hb4 HD2
                    obtain ⟨K1, hK1⟩ : ∃ K : Nat, 30 + (y1 : Int) = (K : Int) := ⟨30 + y1, by omega⟩
                    go_wp2_with fail
                    refine (CB ⟨#[105]⟩ K1 w4 (by decide) (by omega)).mono ?_
                    rintro e w5 ⟨l1, rfl, Bj, hb5⟩
                    have hl1 : l1.length ≤ 40 := by have h1 : (⟨#[105]⟩ : ByteArray).size = 1 := rfl; rw [h1] at Bj; omega
                    have HD4 := aa (HD3.out.below hb5)
                    clear hb5 Bj HD3
                    go_wp2_with fail
                    have hba : Below w5.heap.size w5 (w5.alloc (.cells #[.string ⟨#[]⟩, .string ⟨#[97, 32, 98]⟩, .string ⟨#[127]⟩, .string ⟨l1.toArray⟩] 9)) := (Below.refl _ _).alloc (Nat.le_refl _) _
                    have HD5 := aa (HD4.out.below hba)
                    have Iy := aa (heap_alloc_new w5 (.cells #[.string ⟨#[]⟩, .string ⟨#[97, 32, 98]⟩, .string ⟨#[127]⟩, .string ⟨l1.toArray⟩] 9))
                    have AZ : Hid (b < w5.heap.size) := HD4.out.src.lt
                    clear hba HD4
                    obtain ⟨tq, htq⟩ : ∃ g, w5.heap.size = g := ⟨_, rfl⟩
                    rw [htq] at Iy AZ
                    simp only [htq]
                    clear htq
                    generalize w5.alloc (.cells #[.string ⟨#[]⟩, .string ⟨#[97, 32, 98]⟩, .string ⟨#[127]⟩, .string ⟨l1.toArray⟩] 9) = w6 at *
                    refine (dx HD5.out.src hn (by omega) 4 (by omega) (by omega)).mono ?_
                    rintro e w7 ⟨y, rfl, hy, hs7, iV⟩
                    have HD6 := aa (HD5.out.draw hs7 iV)
                    have xk := aa (iV.blk Iy.out (fun e => by have := AZ.out; omega))
                    clear hs7 iV HD5 Iy
                    obtain ⟨tl, htl, hcl⟩ := Gr y (by omega) (t0 := []) (t1 := [97, 32, 98]) (t2 := [127]) (t3 := l1) 40 (by decide) (by decide) (by decide) hl1 xk.out
                    have hyz : (y : Int) < 4 := by omega
                    have HE := aa ((HD6.out.QC tl).bf htl uH.out.b (A' := A + 150) (by omega))
                    have b0 := ah HD6.out.box 0
                    have b0f := aC HD6.out.box 0
                    simp only [List.getElem?_toArray, List.getElem?_cons_zero] at b0
                    go_wp2_with fail
                    go_meet
                    case rel => exact HE.out
                  · have h0b : (rz == 0) = false := by simpa using h0
                    have HE := aa (HD2.out.bf (by omega) uH.out.b (A' := A + 150) (by omega))
                    go_wp2_with fail
                    go_meet
                    case rel => exact HE.out
    case rest =>
      obtain ⟨kV, pX, V', ys', hd', abI, hs', hb', hbx, hrs, hdv⟩ := hcut
      obtain ⟨a', c', rfl⟩ := ji hdv.row
      obtain ⟨N', hN'⟩ : ∃ N, V'.length = N := ⟨_, rfl⟩
      rw [hN'] at hbx hdv
      have zM := aa HD2.out.rl
      have HCB := aa HD2.out.cb
      have HF := aa (BF.end (A' := A + 200) hN' hd' abI hs' hb' hrs hdv zM.out HCB.out (by omega))
      have z0 := ah hbx 0
      have z1 := ah hbx 1
      have r0 := ah hrs 0
      have r1 := ah hrs 1
      have f0 := aC hrs 0
      have f1 := aC hrs 1
      have HRS := aa hrs
      simp only [List.getElem?_toArray, List.getElem?_cons_zero, List.getElem?_cons_succ] at z0 z1 r0 r1
      clear hN' hd' abI hs' hb' hbx hrs hdv HD2
      go_wp2
      have k1 := aV (aV HRS.out 0 (.string ⟨kV.toArray⟩)) 1 (.slice a' N' c')
      have hfin := HF.out
      refine bodyPost_ret (v := .agg #[.string ⟨kV.toArray⟩, .slice a' N' c']) ?_ rfl hfin
      clear hfin z0 z1 r0 r1 f0 f1
      generalize (wc.setCell ⟨g4, 0, none⟩ (.string ⟨kV.toArray⟩)).setCell ⟨g4, 1, none⟩ (.slice a' N' c') = wf at *
      have z0 := ah k1 0
      have z1 := ah k1 1
      simp at z0 z1
      simp [results, Tryz.results17, go_sem, z0, z1]
end Go.Proofs.YtcjiphknpagenaaGreatDoor
