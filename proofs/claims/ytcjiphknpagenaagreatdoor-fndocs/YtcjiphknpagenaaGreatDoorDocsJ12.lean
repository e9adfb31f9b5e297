import Derived.Test.YtcjiphknpagenaaGreatDoorDocsJ11
namespace Go.Proofs.YtcjiphknpagenaaGreatDoor
open Go Go.RowKit
set_option linter.unusedVariables false
set_option linter.unusedSimpArgs false
set_option maxRecDepth 100000
set_option maxHeartbeats 4000000
theorem MZ(D O:Nat)(x0 x1 y:Value)(u:TypeId)(pv:Value)(older:List PanicEntry)(w:World)(hd:w.heap[D]?=some (.cells #[x0,x1] 28))(ho:w.heap[O]?=some (.cells #[y] 4))(hne:D≠O) :CallsD Tryz.prog 57 #[.pointer (some ⟨D,0,none⟩),.pointer (some ⟨O,0,none⟩)] (.panicking ({v:= .iface u pv,recovered:=false} ::older)) w fun e u' w'=>e= .returned (.tuple #[])∧u'= .panicking ({v:= .iface u pv,recovered:=true} ::older)∧w'=((w.setCell ⟨D,0,none⟩ (.string ⟨#[]⟩)).setCell ⟨D,1,none⟩ (.slice none 0 0)).setCell ⟨O,0,none⟩ (.bool false) :=by have c0:=ah hd 0;have c1:=ah hd 1;have f0:=aC hd 0;have f1:=aC hd 1;have d0:=ah ho 0;have g0:=aC ho 0;refine callsD_of_wpS Tryz.func57 rfl fun c₀ cs hu=> ?_;apply wpS_seq;apply wpS_region;simp[wpOpsS,go_sem,recoverD,hu,Tryz.ntmps57,Exit.thenS];refine wpS_cond (t:=true) (by simp[Act.eval,Array.replicate]) ?_;simp only[if_true];apply wpS_region;simp[wpOpsS,go_sem,c0,c1,f0,f1,d0,g0,hne,Ne.symm hne,bodyPostS,results,Tryz.results57]
theorem Pt(D O:Nat)(w:World) :CallsD Tryz.prog 57 #[.pointer (some ⟨D,0,none⟩),.pointer (some ⟨O,0,none⟩)] .returning w fun e u' w'=>e= .returned (.tuple #[])∧u'= .returning∧w'=w:=by refine callsD_of_wpS Tryz.func57 rfl fun c₀ cs hu=> ?_;apply wpS_seq;apply wpS_region;simp[wpOpsS,go_sem,recoverD,hu,Tryz.ntmps57,Exit.thenS];refine wpS_cond (t:=false) (by simp[Act.eval,Array.replicate]) ?_;simp only[Bool.false_eq_true,if_false];refine wpS_of_wp (wp_skip ?_);cases c₀;simp_all [bodyPostS,results,Tryz.results57]
def LJ(w0:World)(bs:List UInt8)(e:Ending)(w':World) :Prop:=Below w0.heap.size w0 w'∧((∃id V va xs r lo,qa bs=some ((id,V),r)∧e= .returned (.tuple #[.agg #[.string ⟨id.toArray⟩,va],.bool (decide (r.length=0))])∧w0.heap.size≤lo∧kC w' lo w'.heap.size va V xs)∨(qa bs=none∧e= .returned (.tuple #[.agg #[.string ⟨#[]⟩,.slice none 0 0],.bool false])))
theorem RU {w0:World} {u:TypeId} {pv:Value} {a0:Option Addr} {c:Nat} {bs:List UInt8}(hE:zI w0 u pv)(hn:bs.length≤1048576)(hB:(bs= []∧∃a c',(Value.slice a0 bs.length c)= .slice a 0 c')∨∃b off c',(Value.slice a0 bs.length c)= .slice (some ⟨b,off,none⟩) bs.length c'∧bs.length≤c'∧b<w0.heap.size∧BytesAt w0 b off bs) :Calls Tryz.prog 31 #[.slice a0 bs.length c] w0 (LJ w0 bs) :=by
 have hmf: ∀(fn:Fn)(first cap:Array Value)(w:World),(Instr.makeFunc fn first cap).run Tryz.prog w= .ok (.func fn first cap) w:=fun _ _ _ _=>rfl;have HE:=aa hE;clear hE;go_enter_defers Tryz.func31,Tryz.ntmps31;go_wp2_with fail;have hk:(((w0.alloc (.cells #[.string ⟨#[]⟩,.slice none 0 0] 28)).alloc (.cells #[.bool false] 4)).alloc (.cells #[.slice a0 bs.length c,.bool false] 103)).heap[w0.heap.size]?=some (.cells #[.string ⟨#[]⟩,.slice none 0 0] 28)∧(((w0.alloc (.cells #[.string ⟨#[]⟩,.slice none 0 0] 28)).alloc (.cells #[.bool false] 4)).alloc (.cells #[.slice a0 bs.length c,.bool false] 103)).heap[w0.heap.size+1]?=some (.cells #[.bool false] 4)∧(((w0.alloc (.cells #[.string ⟨#[]⟩,.slice none 0 0] 28)).alloc (.cells #[.bool false] 4)).alloc (.cells #[.slice a0 bs.length c,.bool false] 103)).heap[w0.heap.size+1+1]?=some (.cells #[.slice a0 bs.length c,.bool false] 103) :=by
  have h2:=gm w0 (.cells #[.string ⟨#[]⟩,.slice none 0 0] 28) (.cells #[.bool false] 4);refine⟨?_,?_,?_⟩;·rw[Below.heap_alloc _ _ _ (by simp;omega)];exact h2.1
  ·rw[Below.heap_alloc _ _ _ (by simp)];exact h2.2
  ·have:=heap_alloc_new ((w0.alloc (.cells #[.string ⟨#[]⟩,.slice none 0 0] 28)).alloc (.cells #[.bool false] 4)) (.cells #[.slice a0 bs.length c,.bool false] 103);simpa using this
 have hz3:(((w0.alloc (.cells #[.string ⟨#[]⟩,.slice none 0 0] 28)).alloc (.cells #[.bool false] 4)).alloc (.cells #[.slice a0 bs.length c,.bool false] 103)).heap.size=w0.heap.size+3:=by simp
 have HB3:Hid (Below w0.heap.size w0 (((w0.alloc (.cells #[.string ⟨#[]⟩,.slice none 0 0] 28)).alloc (.cells #[.bool false] 4)).alloc (.cells #[.slice a0 bs.length c,.bool false] 103))) :=(((Below.refl _ _).alloc (Nat.le_refl _) _).alloc (by simp) _).alloc (by simp;omega) _;generalize((w0.alloc (.cells #[.string ⟨#[]⟩,.slice none 0 0] 28)).alloc (.cells #[.bool false] 4)).alloc (.cells #[.slice a0 bs.length c,.bool false] 103)=W3 at*;have HR:Hid (iP w0 W3 (w0.heap.size+1+1) bs false) :=⟨HB3.out,by omega,_,hk.2.2,hB⟩;refine(RG HE.out hn HR.out).mono ?_;rintro e w4(⟨id,V,va,xs,r,lo,hrd,rfl,hlo,sS,hr4,Af⟩| ⟨hrd,rfl,hb4,Af⟩)
 ·have kD:=(Af.2 w0.heap.size (by omega) (by omega)).trans hk.1;have kO:=(Af.2 (w0.heap.size+1) (by omega) (by omega)).trans hk.2.1;obtain⟨v4,kB,hv4⟩ :=hr4.box;have hvl: ∃a4 c4,v4= .slice a4 r.length c4:=by
   rcases hv4 with⟨rfl,a,c,e⟩| ⟨b',o',c',e,_⟩;·exact⟨a,c,e⟩
   ·exact⟨_,c',e⟩
  obtain⟨a4,c4,rfl⟩ :=hvl;obtain⟨aA,cA,rfl⟩ :=nC sS.row;have Me:=aa sS;have Ow:=aa hrd;have bU:=aa hr4.old;have ajj:=Af.1;have c0:=ah kD 0;have c1:=ah kD 1;have f0:=aC kD 0;have f1:=aC kD 1;have d0:=ah kO 0;have g0:=aC kO 0;have b0:=ah kB 0;simp only[List.getElem?_toArray,List.getElem?_cons_zero,List.getElem?_cons_succ]at c0 c1 d0 b0;clear sS hrd hr4 Af hv4 hk HR HB3 hB;have X9:=aa kD;have Yk:=aa kO;have Rv:=aa kB;clear kD kO kB;dsimp only;go_upto_region 4 with fail;have m1:=nV (x:= .string ⟨id.toArray⟩) (y:= .slice aA V.length cA) X9.out;have hset: ∀x,x≠w0.heap.size→((w4.setCell ⟨w0.heap.size,0,none⟩ (.string ⟨id.toArray⟩)).setCell ⟨w0.heap.size,1,none⟩ (.slice aA V.length cA)).heap[x]?=w4.heap[x]?:=fun x hx=>by rw[au _ _ _ _ _ hx,au _ _ _ _ _ hx]
  have eG:Hid (Below w0.heap.size w0 ((w4.setCell ⟨w0.heap.size,0,none⟩ (.string ⟨id.toArray⟩)).setCell ⟨w0.heap.size,1,none⟩ (.slice aA V.length cA))) :=(bU.out.setCell (p:=⟨w0.heap.size,0,none⟩) (Nat.le_refl _) _).setCell (p:=⟨w0.heap.size,1,none⟩) (Nat.le_refl _) _;have Ak:((w4.setCell ⟨w0.heap.size,0,none⟩ (.string ⟨id.toArray⟩)).setCell ⟨w0.heap.size,1,none⟩ (.slice aA V.length cA)).heap.size=w4.heap.size:=by simp
  generalize((w4.setCell ⟨w0.heap.size,0,none⟩ (.string ⟨id.toArray⟩)).setCell ⟨w0.heap.size,1,none⟩ (.slice aA V.length cA))=w5 at*;have HA5:Hid (kC w5 lo w5.heap.size (.slice aA V.length cA) V xs) :=by show kC _ _ _ _ _ _;rw[Ak];exact Me.out.keep fun x h1 h2=>hset x (by omega)
  have OM:=m1;have Yl:=(hset (w0.heap.size+1) (by omega)).trans Yk.out;have kB5:=(hset (w0.heap.size+1+1) (by omega)).trans Rv.out;clear c0 c1 f0 f1 d0 g0 b0 m1 hset Me X9 Yk Rv bU;have c0:=ah OM 0;have c1:=ah OM 1;have f0:=aC OM 0;have f1:=aC OM 1;have d0:=ah Yl 0;have g0:=aC Yl 0;have b0:=ah kB5 0;simp only[List.getElem?_toArray,List.getElem?_cons_zero,List.getElem?_cons_succ]at c0 c1 d0 b0;have X9:=aa OM;have Yk:=aa Yl;clear OM Yl kB5;go_region;all_goals
   go_wp2_with fail;obtain⟨t,ht⟩ : ∃t,((r.length:Int)==0)=t:=⟨_,rfl⟩;have Ht:Hid (t=decide (r.length=0)) :=by show _=_;rw[←ht,Bool.eq_iff_iff];simp
   rw[ht];clear ht;refine leaves_cons (f:=57) (args:=#[.pointer (some ⟨w0.heap.size,0,none⟩),.pointer (some ⟨w0.heap.size+1,0,none⟩)]) (by simp) (by simp[go_sem]) ?_;refine(Pt w0.heap.size (w0.heap.size+1) _).mono ?_;rintro e u' w''⟨rfl,rfl,hw''⟩;have HF:Hid (LJ w0 bs (.returned (.tuple #[.agg #[.string ⟨id.toArray⟩,.slice aA V.length cA],.bool t])) w''∧w''.heap[w0.heap.size]?=some (.cells #[.string ⟨id.toArray⟩,.slice aA V.length cA] 28)∧w''.heap[w0.heap.size+1]?=some (.cells #[.bool t] 4)) :=by
    have hset: ∀x,x≠w0.heap.size→x≠w0.heap.size+1→w''.heap[x]?=w5.heap[x]?:=fun x h1 h2=>by rw[hw''];show(((w5.setCell _ _).setCell _ _).setCell _ _).heap[x]?=_;rw[au _ _ _ _ _ h2,au _ _ _ _ _ h1,au _ _ _ _ _ h1]
    have hz:w''.heap.size=w5.heap.size:=by rw[hw''];simp
    have hbel:Below w0.heap.size w0 w'':=by rw[hw''];exact below_drewN (((eG.out.setCell (p:=⟨w0.heap.size,0,none⟩) (Nat.le_refl _) _).setCell (p:=⟨w0.heap.size,1,none⟩) (Nat.le_refl _) _).setCell (p:=⟨w0.heap.size+1,0,none⟩) (by dsimp only;omega) _) 1
    refine⟨⟨hbel,Or.inl ⟨id,V,_,xs,r,lo,Ow.out,by rw[Ht.out],by omega,?_⟩⟩,?_,?_⟩;·rw[hz];exact HA5.out.keep fun x h1 h2=>hset x (by omega) (by omega)
    ·rw[hw''];show(((w5.setCell _ _).setCell _ _).setCell _ _).heap[w0.heap.size]?=_;rw[au _ _ _ _ _ (by omega)];exact nV X9.out
    ·rw[hw''];show(((w5.setCell _ _).setCell _ _).setCell _ _).heap[w0.heap.size+1]?=_;have kk:((w5.setCell ⟨w0.heap.size,0,none⟩ (.string ⟨id.toArray⟩)).setCell ⟨w0.heap.size,1,none⟩ (.slice aA V.length cA)).heap[w0.heap.size+1]?=some (.cells #[.bool false] 4) :=by rw[au _ _ _ _ _ (by omega),au _ _ _ _ _ (by omega)];exact Yk.out
     exact aV kk 0 _
   clear hw'';have z0:=ah HF.out.2.1 0;have z1:=ah HF.out.2.1 1;have z2:=ah HF.out.2.2 0;simp only[List.getElem?_toArray,List.getElem?_cons_zero,List.getElem?_cons_succ]at z0 z1 z2;simp[Leaves,settle,results,Tryz.results31,go_sem,z0,z1,z2];exact HF.out.1
 ·have kD:=(Af.2 w0.heap.size (by omega) (by omega)).trans hk.1;have kO:=(Af.2 (w0.heap.size+1) (by omega) (by omega)).trans hk.2.1;have bU:=aa hb4;have Ow:=aa hrd;refine leaves_cons (f:=57) (args:=#[.pointer (some ⟨w0.heap.size,0,none⟩),.pointer (some ⟨w0.heap.size+1,0,none⟩)]) (by simp) (by simp[go_sem]) ?_;refine(MZ w0.heap.size (w0.heap.size+1) _ _ _ u pv [] _ kD kO (by omega)).mono ?_;rintro e u' w''⟨rfl,rfl,rfl⟩;have m1:=nV (x:= .string ⟨#[]⟩) (y:= .slice none 0 0) kD;have m2:((((w4.setCell ⟨w0.heap.size,0,none⟩ (.string ⟨#[]⟩)).setCell ⟨w0.heap.size,1,none⟩ (.slice none 0 0)).setCell ⟨w0.heap.size+1,0,none⟩ (.bool false))).heap[w0.heap.size]?=some (.cells #[.string ⟨#[]⟩,.slice none 0 0] 28) :=by rw[au _ _ _ _ _ (by omega)];exact m1
  have m3:((((w4.setCell ⟨w0.heap.size,0,none⟩ (.string ⟨#[]⟩)).setCell ⟨w0.heap.size,1,none⟩ (.slice none 0 0)).setCell ⟨w0.heap.size+1,0,none⟩ (.bool false))).heap[w0.heap.size+1]?=some (.cells #[.bool false] 4) :=by
   have kk:((w4.setCell ⟨w0.heap.size,0,none⟩ (.string ⟨#[]⟩)).setCell ⟨w0.heap.size,1,none⟩ (.slice none 0 0)).heap[w0.heap.size+1]?=some (.cells #[.bool false] 4) :=by rw[au _ _ _ _ _ (by omega),au _ _ _ _ _ (by omega)];exact kO
   exact aV kk 0 _
  have hbel:Below w0.heap.size w0 (((w4.setCell ⟨w0.heap.size,0,none⟩ (.string ⟨#[]⟩)).setCell ⟨w0.heap.size,1,none⟩ (.slice none 0 0)).setCell ⟨w0.heap.size+1,0,none⟩ (.bool false)) :=((bU.out.setCell (p:=⟨w0.heap.size,0,none⟩) (Nat.le_refl _) _).setCell (p:=⟨w0.heap.size,1,none⟩) (Nat.le_refl _) _).setCell (p:=⟨w0.heap.size+1,0,none⟩) (by dsimp only;omega) _;dsimp only;generalize((w4.setCell ⟨w0.heap.size,0,none⟩ (.string ⟨#[]⟩)).setCell ⟨w0.heap.size,1,none⟩ (.slice none 0 0)).setCell ⟨w0.heap.size+1,0,none⟩ (.bool false)=w6 at*;have z0:=ah m2 0;have z1:=ah m2 1;have z2:=ah m3 0;simp only[List.getElem?_toArray,List.getElem?_cons_zero,List.getElem?_cons_succ]at z0 z1 z2;have HF:Hid (LJ w0 bs (.returned (.tuple #[.agg #[.string ⟨#[]⟩,.slice none 0 0],.bool false])) w6) :=⟨hbel,Or.inr ⟨Ow.out,rfl⟩⟩;simp[Leaves,settle,results,Tryz.results31,go_sem,z0,z1,z2]
  exact HF.out
def qA(bs:List UInt8) :Dc×Int:=match CK bs with
 |some d=>(d,0)
 |none=>(([],[]),15)
def JH(w0:World)(bs:List UInt8)(e:Ending)(w':World) :Prop:=Below w0.heap.size w0 w'∧∃va xs lo,e= .returned (.tuple #[.agg #[.string ⟨(qA bs).1.1.toArray⟩,va],.int .i64 (qA bs).2])∧w0.heap.size≤lo∧kC w' lo w'.heap.size va (qA bs).1.2 xs
theorem Wy {bs:List UInt8} {id:List UInt8} {V:List Vl}(h:qa bs=some ((id,V),[])) :qA bs=((id,V),0) :=by unfold qA CK;rw[h]
theorem Po {bs r:List UInt8} {d:Dc}(h:qa bs=some (d,r))(hr:r≠ []) :qA bs=(([],[]),15) :=by
 unfold qA CK;rw[h];cases r with
 |nil=>exact absurd rfl hr
 |cons x t=>rfl
theorem VR {bs:List UInt8}(h:qa bs=none) :qA bs=(([],[]),15) :=by unfold qA CK;rw[h]
theorem Lr {w0:World} {u:TypeId} {pv:Value} {b off c:Nat} {bs:List UInt8}(hE:zI w0 u pv)(hn:bs.length≤1048576)(hb:b<w0.heap.size)(hc:bs.length≤c)(hB:BytesAt w0 b off bs) :Calls Tryz.prog 9 #[.slice (some ⟨b,off,none⟩) bs.length c] w0 (JH w0 bs) :=by
 have ax:=aa ((Below.refl w0.heap.size w0).alloc (Nat.le_refl _) (.cells #[.string ⟨#[]⟩,.slice none 0 0] 28));have HQ:=aa (heap_alloc_new w0 (.cells #[.string ⟨#[]⟩,.slice none 0 0] 28));have HE:=aa hE;have iO:=aa hB;clear hE hB;have hnz: ¬(bs.length:Int)>1048576:=by omega
 go_enter Tryz.func9,Tryz.ntmps9;go_upto_region 3 with fail;obtain⟨wa,bN⟩ : ∃wa,w0.alloc (.cells #[.string ⟨#[]⟩,.slice none 0 0] 28)=wa:=⟨_,rfl⟩;rw[bN]at ax HQ;try rw[bN]
 clear bN;have hwz:w0.heap.size<wa.heap.size:=(Array.getElem?_eq_some_iff.1 HQ.out).1;have HC:=aa (RU (w0:=wa) ⟨HE.out.at ax.out,by omega⟩ hn (Or.inr ⟨b,off,c,rfl,hc,by omega,iO.out.old ax.out hb⟩));go_wp2_with fail;refine HC.out.mono ?_;rintro e w1⟨hb1,⟨id,V,va,xs,r,lo,hrd,rfl,hlo,sS⟩| ⟨hrd,rfl⟩⟩
 ·obtain⟨aA,cA,rfl⟩ :=nC sS.row;obtain⟨t,ht⟩ : ∃t,decide (r.length=0)=t:=⟨_,rfl⟩;rw[ht];have Ht:=aa ht;clear ht;have Tz:=aD HQ.out hb1;have HB1:=aa (ax.out.trans (hb1.mono ax.out.size));have hsz1:=hb1.size;have r9:=aa ((Below.refl w1.heap.size w1).alloc (Nat.le_refl _) (.cells #[.string ⟨id.toArray⟩,.slice aA V.length cA] 28));have HX:=aa (heap_alloc_new w1 (.cells #[.string ⟨id.toArray⟩,.slice aA V.length cA] 28));have Me:=aa sS;have bD:=aa Tz;have Ow:=aa hrd;clear sS hb1 Tz hrd HC HQ;dsimp only;go_upto_region 4 with fail;obtain⟨w2,hw2⟩ : ∃w2,w1.alloc (.cells #[.string ⟨id.toArray⟩,.slice aA V.length cA] 28)=w2:=⟨_,rfl⟩;rw[hw2]at r9 HX;try rw[hw2]
  clear hw2;have kQ:=aD bD.out r9.out;have kX:=HX.out;have hsz2:=r9.out.size;have HB2:=aa (HB1.out.trans (r9.out.mono HB1.out.size));have HA2:Hid (kC w2 lo w2.heap.size (.slice aA V.length cA) V xs) :=(Me.out.keep fun x _ h2=>r9.out.block x h2).mono hsz2;have c0:=ah kQ 0;have c1:=ah kQ 1;have f0:=aC kQ 0;have f1:=aC kQ 1;have d0:=ah kX 0;have d1:=ah kX 1;simp only[List.getElem?_toArray,List.getElem?_cons_zero,List.getElem?_cons_succ]at c0 c1 d0 d1;have HKQ:=aa kQ;clear kQ kX bD Me r9 HX HB1;cases t with
  |true=>
   have hr:r= [] :=List.length_eq_zero_iff.1 (of_decide_eq_true Ht.out);subst hr;have ni:=aa (Wy Ow.out);have HP:Hid (JH w0 bs (.returned (.tuple #[.agg #[.string ⟨id.toArray⟩,.slice aA V.length cA],.int .i64 0])) ((w2.setCell ⟨w0.heap.size,0,none⟩ (.string ⟨id.toArray⟩)).setCell ⟨w0.heap.size,1,none⟩ (.slice aA V.length cA))) :=by
    refine⟨(HB2.out.setCell (p:=⟨w0.heap.size,0,none⟩) (Nat.le_refl _) _).setCell (p:=⟨w0.heap.size,1,none⟩) (Nat.le_refl _) _,.slice aA V.length cA,xs,lo,?_,by omega,?_⟩;·rw[ni.out]
    ·rw[ni.out];refine(HA2.out.keep fun x h1 h2=> ?_).mono (by simp);rw[au _ _ _ _ _ (by omega),au _ _ _ _ _ (by omega)]
   have HX:=aa (nV (x:= .string ⟨id.toArray⟩) (y:= .slice aA V.length cA) HKQ.out);have z0:=ah HX.out 0;have z1:=ah HX.out 1;go_wp2_with fail;refine bodyPost_ret (v:= .tuple #[.agg #[.string ⟨id.toArray⟩,.slice aA V.length cA],.int .i64 0]) (by simp[results,Tryz.results9,go_sem,z0,z1]) rfl ?_;exact HP.out
  |false=>
   have ni:=aa (Po Ow.out (fun h=>of_decide_eq_false Ht.out (by rw[h];rfl)));have HP:Hid (JH w0 bs (.returned (.tuple #[.agg #[.string ⟨#[]⟩,.slice none 0 0],.int .i64 15])) ((w2.setCell ⟨w0.heap.size,0,none⟩ (.string ⟨#[]⟩)).setCell ⟨w0.heap.size,1,none⟩ (.slice none 0 0))) :=by
    refine⟨(HB2.out.setCell (p:=⟨w0.heap.size,0,none⟩) (Nat.le_refl _) _).setCell (p:=⟨w0.heap.size,1,none⟩) (Nat.le_refl _) _,.slice none 0 0,[],w0.heap.size,?_,Nat.le_refl _,?_⟩;·rw[ni.out]
    ·rw[ni.out];exact kC.nil _ _ _
   have HX:=aa (nV (x:= .string ⟨#[]⟩) (y:= .slice none 0 0) HKQ.out);have z0:=ah HX.out 0;have z1:=ah HX.out 1;go_wp2_with fail;refine bodyPost_ret (v:= .tuple #[.agg #[.string ⟨#[]⟩,.slice none 0 0],.int .i64 15]) (by simp[results,Tryz.results9,go_sem,z0,z1]) rfl ?_;exact HP.out
 ·have Tz:=aD HQ.out hb1;have HB1:=aa (ax.out.trans (hb1.mono ax.out.size));have hsz1:=hb1.size;have r9:=aa ((Below.refl w1.heap.size w1).alloc (Nat.le_refl _) (.cells #[.string ⟨#[]⟩,.slice none 0 0] 28));have bD:=aa Tz;have ni:=aa (VR hrd);clear hb1 Tz hrd HC HQ;dsimp only;go_upto_region 4 with fail;obtain⟨w2,hw2⟩ : ∃w2,w1.alloc (.cells #[.string ⟨#[]⟩,.slice none 0 0] 28)=w2:=⟨_,rfl⟩;rw[hw2]at r9;try rw[hw2]
  clear hw2;have kQ:=aD bD.out r9.out;have HB2:=aa (HB1.out.trans (r9.out.mono HB1.out.size));have c0:=ah kQ 0;have c1:=ah kQ 1;have f0:=aC kQ 0;have f1:=aC kQ 1;simp only[List.getElem?_toArray,List.getElem?_cons_zero,List.getElem?_cons_succ]at c0 c1;have HP:Hid (JH w0 bs (.returned (.tuple #[.agg #[.string ⟨#[]⟩,.slice none 0 0],.int .i64 15])) ((w2.setCell ⟨w0.heap.size,0,none⟩ (.string ⟨#[]⟩)).setCell ⟨w0.heap.size,1,none⟩ (.slice none 0 0))) :=by
   refine⟨(HB2.out.setCell (p:=⟨w0.heap.size,0,none⟩) (Nat.le_refl _) _).setCell (p:=⟨w0.heap.size,1,none⟩) (Nat.le_refl _) _,.slice none 0 0,[],w0.heap.size,?_,Nat.le_refl _,?_⟩;·rw[ni.out]
   ·rw[ni.out];exact kC.nil _ _ _
  have HX:=aa (nV (x:= .string ⟨#[]⟩) (y:= .slice none 0 0) kQ);have z0:=ah HX.out 0;have z1:=ah HX.out 1;clear kQ;go_wp2_with fail;refine bodyPost_ret (v:= .tuple #[.agg #[.string ⟨#[]⟩,.slice none 0 0],.int .i64 15]) (by simp[results,Tryz.results9,go_sem,z0,z1]) rfl ?_;exact HP.out
def bC(r:Int) :Int:=if r=98∨r=102∨r=112∨r=118 then 1 else if r=99∨r=103∨r=106∨r=107∨r=113∨r=115∨r=120∨r=122 then 2 else if r=100∨r=116 then 3 else if r=108 then 4 else if r=109∨r=110 then 5 else if r=114 then 6 else 0
theorem F3(r:Int) :0≤bC r∧bC r≤6:=by
 unfold bC;repeat' split
 all_goals decide
theorem W9(w:World) :Calls Tryz.prog 133 #[.int .i64 97] w fun e w'=>e= .returned (.int .i64 (bC 97))∧w'=w:=by go_enter Tryz.func133,Tryz.ntmps133;go_wp2;go_ret;exact⟨rfl,rfl⟩
theorem VD(w:World) :Calls Tryz.prog 156 #[.int .i64 97] w fun e w'=>e= .returned (.int .u8 (48+bC 97))∧w'=w:=by go_enter Tryz.func156,Tryz.ntmps156;go_wp2;go_ret;exact⟨rfl,rfl⟩
theorem Wv(w:World) :Calls Tryz.prog 133 #[.int .i64 98] w fun e w'=>e= .returned (.int .i64 (bC 98))∧w'=w:=by go_enter Tryz.func133,Tryz.ntmps133;go_wp2;go_ret;exact⟨rfl,rfl⟩
theorem XJ(w:World) :Calls Tryz.prog 156 #[.int .i64 98] w fun e w'=>e= .returned (.int .u8 (48+bC 98))∧w'=w:=by go_enter Tryz.func156,Tryz.ntmps156;go_wp2;go_ret;exact⟨rfl,rfl⟩
theorem WJ(w:World) :Calls Tryz.prog 133 #[.int .i64 99] w fun e w'=>e= .returned (.int .i64 (bC 99))∧w'=w:=by go_enter Tryz.func133,Tryz.ntmps133;go_wp2;go_ret;exact⟨rfl,rfl⟩
theorem WA(w:World) :Calls Tryz.prog 156 #[.int .i64 99] w fun e w'=>e= .returned (.int .u8 (48+bC 99))∧w'=w:=by go_enter Tryz.func156,Tryz.ntmps156;go_wp2;go_ret;exact⟨rfl,rfl⟩
theorem UC(w:World) :Calls Tryz.prog 133 #[.int .i64 100] w fun e w'=>e= .returned (.int .i64 (bC 100))∧w'=w:=by go_enter Tryz.func133,Tryz.ntmps133;go_wp2;go_ret;exact⟨rfl,rfl⟩
theorem TW(w:World) :Calls Tryz.prog 156 #[.int .i64 100] w fun e w'=>e= .returned (.int .u8 (48+bC 100))∧w'=w:=by go_enter Tryz.func156,Tryz.ntmps156;go_wp2;go_ret;exact⟨rfl,rfl⟩
theorem RZ(w:World) :Calls Tryz.prog 133 #[.int .i64 101] w fun e w'=>e= .returned (.int .i64 (bC 101))∧w'=w:=by go_enter Tryz.func133,Tryz.ntmps133;go_wp2;go_ret;exact⟨rfl,rfl⟩
theorem Uc(w:World) :Calls Tryz.prog 156 #[.int .i64 101] w fun e w'=>e= .returned (.int .u8 (48+bC 101))∧w'=w:=by go_enter Tryz.func156,Tryz.ntmps156;go_wp2;go_ret;exact⟨rfl,rfl⟩
theorem Rp(w:World) :Calls Tryz.prog 133 #[.int .i64 102] w fun e w'=>e= .returned (.int .i64 (bC 102))∧w'=w:=by go_enter Tryz.func133,Tryz.ntmps133;go_wp2;go_ret;exact⟨rfl,rfl⟩
theorem TE(w:World) :Calls Tryz.prog 156 #[.int .i64 102] w fun e w'=>e= .returned (.int .u8 (48+bC 102))∧w'=w:=by go_enter Tryz.func156,Tryz.ntmps156;go_wp2;go_ret;exact⟨rfl,rfl⟩
theorem TA(w:World) :Calls Tryz.prog 133 #[.int .i64 103] w fun e w'=>e= .returned (.int .i64 (bC 103))∧w'=w:=by go_enter Tryz.func133,Tryz.ntmps133;go_wp2;go_ret;exact⟨rfl,rfl⟩
theorem QY(w:World) :Calls Tryz.prog 156 #[.int .i64 103] w fun e w'=>e= .returned (.int .u8 (48+bC 103))∧w'=w:=by go_enter Tryz.func156,Tryz.ntmps156;go_wp2;go_ret;exact⟨rfl,rfl⟩
theorem Ti(w:World) :Calls Tryz.prog 133 #[.int .i64 104] w fun e w'=>e= .returned (.int .i64 (bC 104))∧w'=w:=by go_enter Tryz.func133,Tryz.ntmps133;go_wp2;go_ret;exact⟨rfl,rfl⟩
theorem SI(w:World) :Calls Tryz.prog 156 #[.int .i64 104] w fun e w'=>e= .returned (.int .u8 (48+bC 104))∧w'=w:=by go_enter Tryz.func156,Tryz.ntmps156;go_wp2;go_ret;exact⟨rfl,rfl⟩
theorem UH(w:World) :Calls Tryz.prog 133 #[.int .i64 105] w fun e w'=>e= .returned (.int .i64 (bC 105))∧w'=w:=by go_enter Tryz.func133,Tryz.ntmps133;go_wp2;go_ret;exact⟨rfl,rfl⟩
theorem UK(w:World) :Calls Tryz.prog 156 #[.int .i64 105] w fun e w'=>e= .returned (.int .u8 (48+bC 105))∧w'=w:=by go_enter Tryz.func156,Tryz.ntmps156;go_wp2;go_ret;exact⟨rfl,rfl⟩
theorem R3(w:World) :Calls Tryz.prog 133 #[.int .i64 106] w fun e w'=>e= .returned (.int .i64 (bC 106))∧w'=w:=by go_enter Tryz.func133,Tryz.ntmps133;go_wp2;go_ret;exact⟨rfl,rfl⟩
theorem Q8(w:World) :Calls Tryz.prog 156 #[.int .i64 106] w fun e w'=>e= .returned (.int .u8 (48+bC 106))∧w'=w:=by go_enter Tryz.func156,Tryz.ntmps156;go_wp2;go_ret;exact⟨rfl,rfl⟩
theorem R6(w:World) :Calls Tryz.prog 133 #[.int .i64 107] w fun e w'=>e= .returned (.int .i64 (bC 107))∧w'=w:=by go_enter Tryz.func133,Tryz.ntmps133;go_wp2;go_ret;exact⟨rfl,rfl⟩
theorem Rt(w:World) :Calls Tryz.prog 156 #[.int .i64 107] w fun e w'=>e= .returned (.int .u8 (48+bC 107))∧w'=w:=by go_enter Tryz.func156,Tryz.ntmps156;go_wp2;go_ret;exact⟨rfl,rfl⟩
theorem Vg(w:World) :Calls Tryz.prog 133 #[.int .i64 108] w fun e w'=>e= .returned (.int .i64 (bC 108))∧w'=w:=by go_enter Tryz.func133,Tryz.ntmps133;go_wp2;go_ret;exact⟨rfl,rfl⟩
theorem Sb(w:World) :Calls Tryz.prog 156 #[.int .i64 108] w fun e w'=>e= .returned (.int .u8 (48+bC 108))∧w'=w:=by go_enter Tryz.func156,Tryz.ntmps156;go_wp2;go_ret;exact⟨rfl,rfl⟩
theorem RD(w:World) :Calls Tryz.prog 133 #[.int .i64 109] w fun e w'=>e= .returned (.int .i64 (bC 109))∧w'=w:=by go_enter Tryz.func133,Tryz.ntmps133;go_wp2;go_ret;exact⟨rfl,rfl⟩
theorem Q5(w:World) :Calls Tryz.prog 156 #[.int .i64 109] w fun e w'=>e= .returned (.int .u8 (48+bC 109))∧w'=w:=by go_enter Tryz.func156,Tryz.ntmps156;go_wp2;go_ret;exact⟨rfl,rfl⟩
theorem Ra(w:World) :Calls Tryz.prog 133 #[.int .i64 110] w fun e w'=>e= .returned (.int .i64 (bC 110))∧w'=w:=by go_enter Tryz.func133,Tryz.ntmps133;go_wp2;go_ret;exact⟨rfl,rfl⟩
theorem RY(w:World) :Calls Tryz.prog 156 #[.int .i64 110] w fun e w'=>e= .returned (.int .u8 (48+bC 110))∧w'=w:=by go_enter Tryz.func156,Tryz.ntmps156;go_wp2;go_ret;exact⟨rfl,rfl⟩
theorem Uk(w:World) :Calls Tryz.prog 133 #[.int .i64 111] w fun e w'=>e= .returned (.int .i64 (bC 111))∧w'=w:=by go_enter Tryz.func133,Tryz.ntmps133;go_wp2;go_ret;exact⟨rfl,rfl⟩
theorem Tj(w:World) :Calls Tryz.prog 156 #[.int .i64 111] w fun e w'=>e= .returned (.int .u8 (48+bC 111))∧w'=w:=by go_enter Tryz.func156,Tryz.ntmps156;go_wp2;go_ret;exact⟨rfl,rfl⟩
theorem UJ(w:World) :Calls Tryz.prog 133 #[.int .i64 112] w fun e w'=>e= .returned (.int .i64 (bC 112))∧w'=w:=by go_enter Tryz.func133,Tryz.ntmps133;go_wp2;go_ret;exact⟨rfl,rfl⟩
theorem Ua(w:World) :Calls Tryz.prog 156 #[.int .i64 112] w fun e w'=>e= .returned (.int .u8 (48+bC 112))∧w'=w:=by go_enter Tryz.func156,Tryz.ntmps156;go_wp2;go_ret;exact⟨rfl,rfl⟩
theorem Sm(w:World) :Calls Tryz.prog 133 #[.int .i64 113] w fun e w'=>e= .returned (.int .i64 (bC 113))∧w'=w:=by go_enter Tryz.func133,Tryz.ntmps133;go_wp2;go_ret;exact⟨rfl,rfl⟩
theorem Un(w:World) :Calls Tryz.prog 156 #[.int .i64 113] w fun e w'=>e= .returned (.int .u8 (48+bC 113))∧w'=w:=by go_enter Tryz.func156,Tryz.ntmps156;go_wp2;go_ret;exact⟨rfl,rfl⟩
theorem Ur(w:World) :Calls Tryz.prog 133 #[.int .i64 114] w fun e w'=>e= .returned (.int .i64 (bC 114))∧w'=w:=by go_enter Tryz.func133,Tryz.ntmps133;go_wp2;go_ret;exact⟨rfl,rfl⟩
theorem UE(w:World) :Calls Tryz.prog 156 #[.int .i64 114] w fun e w'=>e= .returned (.int .u8 (48+bC 114))∧w'=w:=by go_enter Tryz.func156,Tryz.ntmps156;go_wp2;go_ret;exact⟨rfl,rfl⟩
theorem TL(w:World) :Calls Tryz.prog 133 #[.int .i64 115] w fun e w'=>e= .returned (.int .i64 (bC 115))∧w'=w:=by go_enter Tryz.func133,Tryz.ntmps133;go_wp2;go_ret;exact⟨rfl,rfl⟩
theorem SY(w:World) :Calls Tryz.prog 156 #[.int .i64 115] w fun e w'=>e= .returned (.int .u8 (48+bC 115))∧w'=w:=by go_enter Tryz.func156,Tryz.ntmps156;go_wp2;go_ret;exact⟨rfl,rfl⟩
theorem Rc(w:World) :Calls Tryz.prog 133 #[.int .i64 116] w fun e w'=>e= .returned (.int .i64 (bC 116))∧w'=w:=by go_enter Tryz.func133,Tryz.ntmps133;go_wp2;go_ret;exact⟨rfl,rfl⟩
theorem U5(w:World) :Calls Tryz.prog 156 #[.int .i64 116] w fun e w'=>e= .returned (.int .u8 (48+bC 116))∧w'=w:=by go_enter Tryz.func156,Tryz.ntmps156;go_wp2;go_ret;exact⟨rfl,rfl⟩
theorem RN(w:World) :Calls Tryz.prog 133 #[.int .i64 117] w fun e w'=>e= .returned (.int .i64 (bC 117))∧w'=w:=by go_enter Tryz.func133,Tryz.ntmps133;go_wp2;go_ret;exact⟨rfl,rfl⟩
theorem TJ(w:World) :Calls Tryz.prog 156 #[.int .i64 117] w fun e w'=>e= .returned (.int .u8 (48+bC 117))∧w'=w:=by go_enter Tryz.func156,Tryz.ntmps156;go_wp2;go_ret;exact⟨rfl,rfl⟩
theorem TN(w:World) :Calls Tryz.prog 133 #[.int .i64 118] w fun e w'=>e= .returned (.int .i64 (bC 118))∧w'=w:=by go_enter Tryz.func133,Tryz.ntmps133;go_wp2;go_ret;exact⟨rfl,rfl⟩
theorem UB(w:World) :Calls Tryz.prog 156 #[.int .i64 118] w fun e w'=>e= .returned (.int .u8 (48+bC 118))∧w'=w:=by go_enter Tryz.func156,Tryz.ntmps156;go_wp2;go_ret;exact⟨rfl,rfl⟩
theorem Rw(w:World) :Calls Tryz.prog 133 #[.int .i64 119] w fun e w'=>e= .returned (.int .i64 (bC 119))∧w'=w:=by go_enter Tryz.func133,Tryz.ntmps133;go_wp2;go_ret;exact⟨rfl,rfl⟩
theorem Q7(w:World) :Calls Tryz.prog 156 #[.int .i64 119] w fun e w'=>e= .returned (.int .u8 (48+bC 119))∧w'=w:=by go_enter Tryz.func156,Tryz.ntmps156;go_wp2;go_ret;exact⟨rfl,rfl⟩
theorem Tf(w:World) :Calls Tryz.prog 133 #[.int .i64 120] w fun e w'=>e= .returned (.int .i64 (bC 120))∧w'=w:=by go_enter Tryz.func133,Tryz.ntmps133;go_wp2;go_ret;exact⟨rfl,rfl⟩
theorem TR(w:World) :Calls Tryz.prog 156 #[.int .i64 120] w fun e w'=>e= .returned (.int .u8 (48+bC 120))∧w'=w:=by go_enter Tryz.func156,Tryz.ntmps156;go_wp2;go_ret;exact⟨rfl,rfl⟩
theorem Q0(w:World) :Calls Tryz.prog 133 #[.int .i64 121] w fun e w'=>e= .returned (.int .i64 (bC 121))∧w'=w:=by go_enter Tryz.func133,Tryz.ntmps133;go_wp2;go_ret;exact⟨rfl,rfl⟩
theorem Tv(w:World) :Calls Tryz.prog 156 #[.int .i64 121] w fun e w'=>e= .returned (.int .u8 (48+bC 121))∧w'=w:=by go_enter Tryz.func156,Tryz.ntmps156;go_wp2;go_ret;exact⟨rfl,rfl⟩
theorem RQ(w:World) :Calls Tryz.prog 133 #[.int .i64 122] w fun e w'=>e= .returned (.int .i64 (bC 122))∧w'=w:=by go_enter Tryz.func133,Tryz.ntmps133;go_wp2;go_ret;exact⟨rfl,rfl⟩
theorem RP(w:World) :Calls Tryz.prog 156 #[.int .i64 122] w fun e w'=>e= .returned (.int .u8 (48+bC 122))∧w'=w:=by go_enter Tryz.func156,Tryz.ntmps156;go_wp2;go_ret;exact⟨rfl,rfl⟩
theorem wX(r:Int)(w:World)(h1:97≤r)(h2:r≤122) :Calls Tryz.prog 133 #[.int .i64 r] w fun e w'=>e= .returned (.int .i64 (bC r))∧w'=w:=by
 by_cases c0:r=97;·subst c0;exact W9 w
 by_cases c1:r=98;·subst c1;exact Wv w
 by_cases c2:r=99;·subst c2;exact WJ w
 by_cases c3:r=100;·subst c3;exact UC w
 by_cases c4:r=101;·subst c4;exact RZ w
 by_cases c5:r=102;·subst c5;exact Rp w
 by_cases c6:r=103;·subst c6;exact TA w
 by_cases c7:r=104;·subst c7;exact Ti w
 by_cases c8:r=105;·subst c8;exact UH w
 by_cases c9:r=106;·subst c9;exact R3 w
 by_cases c10:r=107;·subst c10;exact R6 w
 by_cases c11:r=108;·subst c11;exact Vg w
 by_cases c12:r=109;·subst c12;exact RD w
 by_cases c13:r=110;·subst c13;exact Ra w
 by_cases c14:r=111;·subst c14;exact Uk w
 by_cases c15:r=112;·subst c15;exact UJ w
 by_cases c16:r=113;·subst c16;exact Sm w
 by_cases c17:r=114;·subst c17;exact Ur w
 by_cases c18:r=115;·subst c18;exact TL w
 by_cases c19:r=116;·subst c19;exact Rc w
 by_cases c20:r=117;·subst c20;exact RN w
 by_cases c21:r=118;·subst c21;exact TN w
 by_cases c22:r=119;·subst c22;exact Rw w
 by_cases c23:r=120;·subst c23;exact Tf w
 by_cases c24:r=121;·subst c24;exact Q0 w
 by_cases c25:r=122;·subst c25;exact RQ w
 omega
theorem Tw(r:Int)(w:World)(h1:97≤r)(h2:r≤122) :Calls Tryz.prog 156 #[.int .i64 r] w fun e w'=>e= .returned (.int .u8 (48+bC r))∧w'=w:=by
 by_cases c0:r=97;·subst c0;exact VD w
 by_cases c1:r=98;·subst c1;exact XJ w
 by_cases c2:r=99;·subst c2;exact WA w
 by_cases c3:r=100;·subst c3;exact TW w
 by_cases c4:r=101;·subst c4;exact Uc w
 by_cases c5:r=102;·subst c5;exact TE w
 by_cases c6:r=103;·subst c6;exact QY w
 by_cases c7:r=104;·subst c7;exact SI w
 by_cases c8:r=105;·subst c8;exact UK w
 by_cases c9:r=106;·subst c9;exact Q8 w
 by_cases c10:r=107;·subst c10;exact Rt w
 by_cases c11:r=108;·subst c11;exact Sb w
 by_cases c12:r=109;·subst c12;exact Q5 w
 by_cases c13:r=110;·subst c13;exact RY w
 by_cases c14:r=111;·subst c14;exact Tj w
 by_cases c15:r=112;·subst c15;exact Ua w
 by_cases c16:r=113;·subst c16;exact Un w
 by_cases c17:r=114;·subst c17;exact UE w
 by_cases c18:r=115;·subst c18;exact SY w
 by_cases c19:r=116;·subst c19;exact U5 w
 by_cases c20:r=117;·subst c20;exact TJ w
 by_cases c21:r=118;·subst c21;exact UB w
 by_cases c22:r=119;·subst c22;exact Q7 w
 by_cases c23:r=120;·subst c23;exact TR w
 by_cases c24:r=121;·subst c24;exact Tv w
 by_cases c25:r=122;·subst c25;exact RP w
 omega
theorem K8(s:ByteArray)(h: ¬aJ s=0) :di s= [] :=by
 unfold aJ at h;unfold di oG;by_cases h1:65536<s.size;·rw[if_pos h1]
 ·rw[if_neg h1]at h⊢;by_cases h2:bM s=true;·rw[if_pos h2]at h;exact absurd rfl h
  ·rw[if_neg h2]
theorem Dz(s:ByteArray)(h:aJ s=0) :di s=runes s∧s.size≤65536:=by
 unfold aJ at h;unfold di oG;by_cases h1:65536<s.size;·rw[if_pos h1]at h;omega
 ·rw[if_neg h1]at h⊢;by_cases h2:bM s=true;·rw[if_pos h2];exact⟨rfl,by omega⟩
  ·rw[if_neg h2]at h;omega
def iQ(st:List UInt8×Int)(r:Int) :List UInt8×Int:=if r<97∨122<r then st else if st.1= []then([UInt8.ofNat r.toNat],bC r)else if r=104∨r=119 then st else if bC r≠0∧bC r≠st.2 then(st.1++ [UInt8.ofNat (48+bC r).toNat],bC r)else(st.1,bC r)
def Db(l:List Int) :List UInt8×Int:=l.foldl (fun st r=>iQ st (dG r)) ([],0)
def jc(l:List Int) :List UInt8:=if(Db l).1= []then[]else((Db l).1++ [48,48,48]).take 4
theorem VY(l:List Int)(r:Int) :Db (l++ [r])=iQ (Db l) (dG r) :=by unfold Db;rw[List.foldl_append];rfl
theorem RB(st:List UInt8×Int)(r:Int) :(iQ st r).1.length≤st.1.length+1:=by
 unfold iQ;repeat' split
 all_goals simp
theorem Zp(l:List Int) :(Db l).1.length≤l.length:=by
 have key: ∀(l:List Int)(st:List UInt8×Int),(l.foldl (fun st r=>iQ st (dG r)) st).1.length≤st.1.length+l.length:=by
  intro l;induction l with
  |nil=>intro st;simp
  |cons a t ih=>intro st;have h1:=ih (iQ st (dG a));have h2:=RB st (dG a);simp only[List.foldl_cons,List.length_cons]at*;omega
 have:=key l ([],0);simpa[Db]using this
theorem Qg(st:List UInt8×Int)(r:Int)(h:0≤st.2∧st.2≤6) :0≤(iQ st r).2∧(iQ st r).2≤6:=by
 have:=F3 r;unfold iQ;repeat' split
 all_goals(first|omega| (simp only;omega))
theorem Wd(l:List Int) :0≤(Db l).2∧(Db l).2≤6:=by
 have key: ∀(l:List Int)(st:List UInt8×Int),(0≤st.2∧st.2≤6)→0≤(l.foldl (fun st r=>iQ st (dG r)) st).2∧(l.foldl (fun st r=>iQ st (dG r)) st).2≤6:=by
  intro l;induction l with
  |nil=>intro st h;exact h
  |cons a t ih=>intro st h;exact ih _ (Qg st _ h)
 exact key l _ (by decide)
def qO(l:List Int)(k:Nat)(q:List UInt8)(d:Int) :Prop:=Db (l.take k)=(q,d)
theorem qO.zero(l:List Int) :qO l 0 [] 0:=rfl
theorem qO.step {l:List Int} {k:Nat} {q:List UInt8} {d:Int}(h:qO l k q d)(hk:k<l.length) {q':List UInt8} {d':Int}(he:iQ (q,d) (dG (l.getD k 0))=(q',d')) :qO l (k+1) q' d':=by unfold qO at*;rw[Cr l k hk,VY,h];exact he
theorem qO.len {l:List Int} {k:Nat} {q:List UInt8} {d:Int}(h:qO l k q d) :q.length≤k:=by have:=Zp (l.take k);rw[h,List.length_take]at this;simp only at this;omega
theorem qO.last {l:List Int} {k:Nat} {q:List UInt8} {d:Int}(h:qO l k q d) :0≤d∧d≤6:=by have:=Wd (l.take k);rw[h]at this;exact this
theorem qO.done {l:List Int} {k:Nat} {q:List UInt8} {d:Int}(h:qO l k q d)(hk: ¬k<l.length) :jc l=if q= []then[]else(q++ [48,48,48]).take 4:=by unfold qO at h;rw[List.take_of_length_le (by omega)]at h;rw[jc,h]
theorem Mx(q:List UInt8)(d r:Int)(h:r<97∨122<r) :iQ (q,d) r=(q,d) :=by rw[iQ,if_pos h]
theorem Kr(d r:Int)(h1:97≤r)(h2:r≤122) :iQ ([],d) r=([UInt8.ofNat r.toNat],bC r) :=by rw[iQ,if_neg (by omega),if_pos rfl]
theorem Cy(q:List UInt8)(d r:Int)(h1:97≤r)(h2:r≤122)(hq:q≠ [])(h:r=104∨r=119) :iQ (q,d) r=(q,d) :=by rw[iQ,if_neg (by omega),if_neg hq,if_pos h]
theorem UN(q:List UInt8)(d r:Int)(h1:97≤r)(h2:r≤122)(hq:q≠ [])(h: ¬(r=104∨r=119))(hn:bC r≠0)(hd:bC r≠d) :iQ (q,d) r=(q++ [UInt8.ofNat (48+bC r).toNat],bC r) :=by rw[iQ,if_neg (by omega),if_neg hq,if_neg h,if_pos ⟨hn,hd⟩]
theorem Ol(q:List UInt8)(d r:Int)(h1:97≤r)(h2:r≤122)(hq:q≠ [])(h: ¬(r=104∨r=119))(hn:bC r=0∨bC r=d) :iQ (q,d) r=(q,bC r) :=by rw[iQ,if_neg (by omega),if_neg hq,if_neg h,if_neg (by simp only;omega)]
theorem byte_back(r:Int)(h0:0≤r)(h1:r≤255) :((UInt8.ofNat r.toNat).toNat:Int)=r:=by rw[UInt8.toNat_ofNat'];omega
theorem Qi {l:List Int} {k:Nat} {a:Int} {t:List Int}(h:l.drop k=a::t) :l.drop (k+1)=t∧k<l.length∧l.getD k 0=a:=by
 have hk:k<l.length:=by
  by_cases hk:k<l.length;·exact hk
  ·rw[List.drop_of_length_le (by omega)]at h;cases h
 rw[List.drop_eq_getElem_cons hk]at h;injection h with h1 h2;exact⟨h2,hk,by simp[hk,h1]⟩
def uW(s:ByteArray) :List Int:=(runes s).map dG
def qH(s:ByteArray) :List UInt8:=if aJ s=0 then encs (uW s)else[]
theorem vZ(s:ByteArray)(h:aJ s=0) :bM s=true∧s.size≤65536:=by
 unfold aJ at h;by_cases h1:65536<s.size;·rw[if_pos h1]at h;omega
 ·rw[if_neg h1]at h;by_cases h2:bM s=true;·exact⟨h2,by omega⟩
  ·rw[if_neg h2]at h;omega
theorem Uv(s:ByteArray)(hv:bM s=true) : ∀r∈uW s,fT r=true:=by intro r hr;simp only[uW,List.mem_map]at hr;obtain⟨x,hx,rfl⟩ :=hr;exact(JK x (wO s hv x hx)).2.2
def iR(l:List (List UInt8))(t:List UInt8) :Bool:=l.any fun x=>x==t
theorem Um(l:List (List UInt8))(k:Nat)(t:List UInt8)(h:k<l.length) :iR (l.take (k+1)) t=(iR (l.take k) t || (l.getD k []==t)) :=by rw[iR,List.take_succ_eq_append_getElem h,List.any_append,List.getD_eq_getElem?_getD,List.getElem?_eq_getElem h];simp only[List.any_cons,List.any_nil,Bool.or_false,Option.getD_some];rfl
theorem V4 {l:List (List UInt8)} {k:Nat} {t:List UInt8}(h:k<l.length)(he:(l.getD k []==t)=true) :iR l t=true:=by rw[iR,List.any_eq_true];refine⟨l.getD k [],?_,he⟩;rw[List.getD_eq_getElem?_getD,List.getElem?_eq_getElem h,Option.getD_some];exact List.getElem_mem _
def qx(af:List (List UInt8×List UInt8))(t:List UInt8) :List (List UInt8) :=(af.filter fun y=>y.1==t).map fun y=>y.2
def bB(af:List (List UInt8×List UInt8))(t:List UInt8) :List (List UInt8) :=t::qx af t
theorem C9(l:List (List UInt8×List UInt8))(k:Nat)(t:List UInt8)(h:k<l.length) :qx (l.take (k+1)) t=if(l.getD k ([],[])).1==t then qx (l.take k) t++ [(l.getD k ([],[])).2]else qx (l.take k) t:=by
 rw[qx,List.take_succ_eq_append_getElem h,List.filter_append,List.map_append,List.getD_eq_getElem?_getD,List.getElem?_eq_getElem h,Option.getD_some];by_cases hc:(l[k].1==t)=true;·simp[hc,qx]
 ·have hc':(l[k].1==t)=false:=by simpa using hc
  simp[hc',qx]
theorem pF(l:List (List UInt8×List UInt8))(t:List UInt8) :(qx l t).length≤l.length:=by rw[qx,List.length_map];exact List.length_filter_le _ _
def eO(b:Bool)(x:List UInt8) :List UInt8:=if b=true then gU x else x
def mZ(x:List UInt8) :List UInt8:=jc (di (bs x))
def bQ(b:Bool)(x:List UInt8) :List UInt8:=if(b&& !(mZ x== []))=true then mZ x else x
def jf(lo hi:Int)(x:List UInt8) :List (List UInt8) :=if 0<lo then eX (bs x) lo hi else[x]
def codeOf(lo hi:Int)(x:List UInt8) :Int:=if 0<lo then dw (bs x) lo hi else 0
def lU(o:List (List UInt8))(t:List UInt8) :List (List UInt8) :=if(decide (t.length≤64) && !iR o t)=true then o++ [t]else o
def jD(o:List (List UInt8))(l:List (List UInt8)) :List (List UInt8) :=l.foldl lU o
theorem Sw(o l:List (List UInt8))(k:Nat)(h:k<l.length) :jD o (l.take (k+1))=lU (jD o (l.take k)) (l.getD k []) :=by rw[jD,List.take_succ_eq_append_getElem h,List.foldl_append,List.getD_eq_getElem?_getD,List.getElem?_eq_getElem h];rfl
theorem QD(o:List (List UInt8))(t:List UInt8) :(lU o t).length≤o.length+1:=by rw[lU];split<;>simp
theorem zg: ∀(l o:List (List UInt8)),(jD o l).length≤o.length+l.length
 | [],o=>by simp[jD]
 |t::l,o=>by have h1:=zg l (lU o t);have h2:=QD o t;have e:jD o (t::l)=jD (lU o t) l:=rfl;rw[e,List.length_cons];omega
def iK(st ph:Bool)(lo hi:Int) :List (List UInt8)→List (List UInt8)→List (List UInt8) ×Int
 |o,[]=>(o,0)
 |o,x::xs=>if codeOf lo hi (bQ ph (eO st x))=0 then iK st ph lo hi (jD o (jf lo hi (bQ ph (eO st x)))) xs else([],codeOf lo hi (bQ ph (eO st x)))
def tH(t:List UInt8) :List UInt8:=encs (uW (bs t))
def eH(b:Bool)(t:List UInt8) :List UInt8:=if b=true then tH t else t
def gV(fo st ph:Bool)(stops:List (List UInt8))(af:List (List UInt8×List UInt8))(lo hi:Int)(t:List UInt8) :List (List UInt8) ×Int:=if iR stops (eH fo t)=true then([],0)else iK st ph lo hi [] (bB af (eH fo t))
theorem Kj(st ph:Bool)(lo hi:Int)(o l:List (List UInt8))(k:Nat)(h:k<l.length) :iK st ph lo hi o (l.drop k)=if codeOf lo hi (bQ ph (eO st (l.getD k [])))=0 then iK st ph lo hi (jD o (jf lo hi (bQ ph (eO st (l.getD k []))))) (l.drop (k+1))else([],codeOf lo hi (bQ ph (eO st (l.getD k [])))) :=by rw[List.drop_eq_getElem_cons h,iK];simp[h]
theorem mH(x:Int)(_h0:0≤x)(h1:x<256) :(x.toNat.toUInt8).toNat=x.toNat:=by simp;omega
theorem decode_encode(r:Int)(h:fT r=true)(rest:List UInt8) :Lib.decodeL (Lib.encodeRune r++rest)=(r.toNat,(Lib.encodeRune r).length) :=by
 rw[j4]at h;rw[Lib.decodeL_N];by_cases h1:r≤127
 ·have e:Lib.encodeRune r= [r.toNat.toUInt8] :=by rw[Lib.encodeRune,Lib.encodeRuneZ_one h.1 h1];rfl
  have b0:=mH r (by omega) (by omega);rw[e];simp only[List.cons_append,List.nil_append,List.getD_cons_zero,List.length_cons,List.length_nil,b0];unfold Lib.decodeN;rw[if_pos (by omega)]
 by_cases h2:r≤2047
 ·have e:Lib.encodeRune r= [(192+r/64).toNat.toUInt8,(128+r %64).toNat.toUInt8] :=by rw[Lib.encodeRune,Lib.encodeRuneZ_two (by omega) h2];rfl
  have b0:=mH (192+r/64) (by omega) (by omega);have b1:=mH (128+r %64) (by omega) (by omega);rw[e];simp only[List.cons_append,List.nil_append,List.getD_cons_zero,List.getD_cons_succ,List.length_cons,List.length_nil,b0,b1];unfold Lib.decodeN;rw[if_neg (by omega),if_pos (by omega),if_pos (by omega)];apply Prod.ext<;>simp only<;>omega
 by_cases h3:r≤65535
 ·have e:Lib.encodeRune r= [(224+r/4096).toNat.toUInt8,(128+r/64 %64).toNat.toUInt8,(128+r %64).toNat.toUInt8] :=by rw[Lib.encodeRune,Lib.encodeRuneZ_three (by omega)];rfl
  have b0:=mH (224+r/4096) (by omega) (by omega);have b1:=mH (128+r/64 %64) (by omega) (by omega);have b2:=mH (128+r %64) (by omega) (by omega);rw[e];simp only[List.cons_append,List.nil_append,List.getD_cons_zero,List.getD_cons_succ,List.length_cons,List.length_nil,b0,b1,b2];unfold Lib.decodeN;rw[if_neg (by omega),if_neg (by omega),if_pos (by omega),if_pos (by omega)];apply Prod.ext<;>simp only<;>omega
 ·have e:Lib.encodeRune r= [(240+r/262144).toNat.toUInt8,(128+r/4096 %64).toNat.toUInt8,(128+r/64 %64).toNat.toUInt8,(128+r %64).toNat.toUInt8] :=by rw[Lib.encodeRune,Lib.encodeRuneZ_four (by omega) (by omega)];rfl
  have b0:=mH (240+r/262144) (by omega) (by omega);have b1:=mH (128+r/4096 %64) (by omega) (by omega);have b2:=mH (128+r/64 %64) (by omega) (by omega);have b3:=mH (128+r %64) (by omega) (by omega);rw[e];simp only[List.cons_append,List.nil_append,List.getD_cons_zero,List.getD_cons_succ,List.length_cons,List.length_nil,b0,b1,b2,b3];unfold Lib.decodeN;rw[if_neg (by omega),if_neg (by omega),if_neg (by omega),if_pos (by omega),if_pos (by omega)];apply Prod.ext<;>simp only<;>omega
theorem QG(r:Int)(h:fT r=true)(hl:(Lib.encodeRune r).length=1) :r≤127:=by
 rw[j4]at h;by_cases h1:r≤127;·exact h1
 ·exfalso;by_cases h2:r≤2047;·rw[Lib.encodeRune,Lib.encodeRuneZ_two (by omega) h2]at hl;simp at hl
  ·by_cases h3:r≤65535;·rw[Lib.encodeRune,Lib.encodeRuneZ_three (by omega)]at hl;simp at hl
   ·rw[Lib.encodeRune,Lib.encodeRuneZ_four (by omega) (by omega)]at hl;simp at hl
theorem OQ(s:ByteArray) : ∀(l pre:List Int),(∀r∈l,fT r=true)→s.data.toList=encs pre++encs l→Rs s (aM pre)=l∧dW s (aM pre)=true
 | [],pre,_,hs=>by
  have hz: ¬aM pre<s.size:=by rw[←fP,hs];simp[aM,KX]
  exact⟨rR s _ hz,IK s _ hz⟩
 |r::t,pre,hc,hs=>by
  have hr:=hc r (by simp);have e:encs (r::t)=Lib.encodeRune r++encs t:=by simp[encs]
  have hel:=uL r;have hlt:aM pre<s.size:=by rw[←fP,hs,e];simp[aM];omega
  have hdrop:s.data.toList.drop (aM pre)=Lib.encodeRune r++encs t:=by rw[hs,e];simp[aM]
  have hdec:Utf8.decode s (aM pre)=(r.toNat,(Lib.encodeRune r).length) :=by rw[←Lib.decodeL_drop,hdrop];exact decode_encode r hr _
  have hr0:=((j4 r).1 hr).1;have hg: ¬bad s (aM pre) :=by intro hb;rw[bad,hdec]at hb;have:=QG r hr hb.2;have:=hb.1;simp only at this;omega
  have ih:=OQ s t (pre++ [r]) (fun x hx=>hc x (by simp[hx])) (by rw[hs,e,Ch,List.append_assoc]);have hb2:aM (pre++ [r])=aM pre+(Lib.encodeRune r).length:=by rw[kL,jT,jg];omega
  rw[hb2]at ih;refine⟨?_,?_⟩;·rw[j3 s _ hlt,hdec];simp only;rw[ih.1,Int.toNat_of_nonneg hr0]
  ·rw[←lZ s _ hlt hg,hdec];exact ih.2
theorem O9(l:List Int)(h: ∀r∈l,fT r=true) :runes ⟨(encs l).toArray⟩=l∧bM ⟨(encs l).toArray⟩=true:=by have:=OQ ⟨(encs l).toArray⟩ l [] h (by simp[KX]);rw[jg,vC,lS]at this;exact this
theorem U6(s:ByteArray)(hv:bM s=true) :(⟨(encs (runes s)).toArray⟩ :ByteArray)=s:=by have h:=GA s 0 (by rw[lS];exact hv);rw[vC,List.drop_zero]at h;rw[h]
def aG(k:Tk)(l:List (List UInt8)) :List Tk:=l.map fun t=>(t,k.2)
theorem yT(k:Tk)(l:List (List UInt8))(j:Nat)(h:j<l.length) :aG k (l.take (j+1))=aG k (l.take j)++ [(l.getD j [],k.2)] :=by rw[aG,List.take_succ_eq_append_getElem h,List.map_append,List.getD_eq_getElem?_getD,List.getElem?_eq_getElem h];rfl
theorem kK(k:Tk)(l:List (List UInt8)) :(aG k l).length=l.length:=by rw[aG,List.length_map]
def jE(F:List UInt8→List (List UInt8) ×Int) :List Tk→List Tk→List Tk×Int
 |o,[]=>(o,0)
 |o,k::ks=>if(F k.1).2=0 then(if(o++aG k (F k.1).1).length≤8192 then jE F (o++aG k (F k.1).1) ks else([],11))else([],(F k.1).2)
def bS:Tk:=([],0,0,0)
theorem GY(F:List UInt8→List (List UInt8) ×Int)(o l:List Tk)(k:Nat)(h:k<l.length) :jE F o (l.drop k)=if(F (l.getD k bS).1).2=0 then(if(o++aG (l.getD k bS) (F (l.getD k bS).1).1).length≤8192 then jE F (o++aG (l.getD k bS) (F (l.getD k bS).1).1) (l.drop (k+1))else([],11))else([],(F (l.getD k bS).1).2) :=by
 have e:l.getD k bS=l[k] :=by rw[List.getD_eq_getElem?_getD,List.getElem?_eq_getElem h,Option.getD_some]
 rw[List.drop_eq_getElem_cons h,jE,e]
def oU(fo st ph:Bool)(stops:List (List UInt8))(af:List (List UInt8×List UInt8))(lo hi:Int)(s:ByteArray) :List Tk×Int:=if 65536<s.size then([],2)else if mq stops af lo hi=true then(if dI s=0 then jE (gV fo st ph stops af lo hi) [] (bY s)else([],dI s))else([],1)
theorem Mj(a b:List Int) :encs (a++b)=encs a++encs b:=by simp[encs]
theorem BC: ∀(f:Nat)(l:List Int)(a n:Nat),(∀r∈l,fT r=true)→∀k∈toks f l a n,∃l',k.1=encs l'∧(∀r∈l',fT r=true)∧(encs l').length≤(encs l).length
 |0,l,a,n,_=>by intro k hk;rw[toks]at hk;simp at hk
 |f+1,[],a,n,_=>by intro k hk;rw[zD]at hk;simp at hk
 |f+1,r::t,a,n,h=>by
  intro k hk;rw[toks]at hk;split at hk;·obtain⟨l',h1,h2,h3⟩ :=BC f t _ _ (fun x hx=>h x (List.mem_cons_of_mem _ hx)) k hk;refine⟨l',h1,h2,Nat.le_trans h3 ?_⟩;have e:=Mj [r] t;rw[List.singleton_append]at e;rw[e,List.length_append];omega
  ·generalize fV (r::t)=W at hk;have e:=Mj ((r::t).take W) ((r::t).drop W);rw[List.take_append_drop]at e;rcases List.mem_cons.1 hk with rfl|hk;·exact⟨_,rfl,fun x hx=>h x (List.mem_of_mem_take hx),by rw[e,List.length_append];omega⟩
   ·obtain⟨l',h1,h2,h3⟩ :=BC f _ _ _ (fun x hx=>h x (List.mem_of_mem_drop hx)) k hk;exact⟨l',h1,h2,by rw[e,List.length_append];omega⟩
theorem yU(s:ByteArray) : ∀k∈bY s,bM (bs k.1)=true∧(bs k.1).size≤65536:=by
 intro k hk;rw[bY]at hk;split at hk
 ·rename_i hc;obtain⟨hv,hz⟩ :=vZ s hc;split at hk;·simp at hk
  ·obtain⟨l',h1,h2,h3⟩ :=BC _ _ _ _ (wO s hv) k hk;have hb:=U6 s hv;have hl:(encs (runes s)).length=s.size:=(aK _).symm.trans (congrArg ByteArray.size hb);rw[h1];exact⟨(O9 l' h2).2,by rw[aK];omega⟩
 ·simp at hk
theorem xL(s:ByteArray) :(bY s).length≤8192:=by
 rw[bY];repeat' split
 all_goals first| (simp;done)|omega
theorem uP {stops:List (List UInt8)} {af:List (List UInt8×List UInt8)} {lo hi:Int}(h:mq stops af lo hi=true) :stops.length≤64∧af.length≤64∧(∀k,k<af.length→(af.getD k ([],[])).2.length≤64) :=by simp only[mq,Bool.and_eq_true,decide_eq_true_eq]at h;obtain⟨⟨⟨⟨h1,h2⟩,h3⟩,h4⟩,h5⟩ :=h;refine⟨h1,h2,fun k hk=> ?_⟩;rw[List.getD_eq_getElem?_getD,List.getElem?_eq_getElem hk,Option.getD_some];have h6:=(List.all_eq_true.1 h4) _ (List.getElem_mem hk);simp only[CX,lu,Bool.and_eq_true,decide_eq_true_eq]at h6;exact h6.1.2.1.2
end Go.Proofs.YtcjiphknpagenaaGreatDoor
