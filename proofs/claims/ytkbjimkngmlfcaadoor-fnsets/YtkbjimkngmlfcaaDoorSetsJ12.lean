import Derived.Test.YtkbjimkngmlfcaaDoorSetsJ11
open Go renaming World→aaa,Value→aah,heap_alloc_new→aaV,wp_region_held→aax,wpAnyH_done→aaL,Operand→aat,execOp→aaF,frozen_of_row→aa1,TypeId→aaT
open Go.Instr renaming makeMap→aa8,lookup→aaA
open Go.RowKit renaming Below→aal
open Go.RowKit.Below renaming refl→aas,heap_alloc→aaE
open Go.Value renaming agg→aaY,slice→aa',map→abd,bool→abf
open List renaming length→abn,getD_eq_getElem?_getD→aa7,getElem?_map→aaU,getElem?_eq_getElem→aa5,length_map→aa4,map_append→abl,map_singleton→abk
open Nat renaming le_refl→aaw,le_trans→aaK,lt_of_lt_of_le→aau
open Option.some renaming injEq→aa3
open Or renaming inl→aar,inr→aap
namespace Go.Proofs.YtkbjimkngmlfcaaDoor
open Go Go.RowKit
set_option linter.unusedVariables false
set_option linter.unusedSimpArgs false
set_option maxRecDepth 100000
set_option maxHeartbeats 8000000
def agV(w:aaa)(bs:List Bool)(aB:List (List Nat))(sg:List Nat)(S:Nat)(ls:List Int)(e:Ending)(w':aaa) :Prop:=∃v D,e= .returned (.agg #[v])∧bq w' w.heap.size v D∧bS.dx ls.length ls ((wL (aM bs aB) sg S).aW (ls.length+1) 0) (D.map Prod.snd)∧aal w.heap.size w w'∧D.length≤257∧∃ad c,v= .slice ad D.length c
theorem Jp(T:Sys Nat)(m:Nat)(ls:List Int)(o:List Nat)(x k:Nat) :(bJ T m ls o x k).length≤k:=by unfold bJ jq;exact Zf
theorem abW(tb gp cp gf cf g3 c3 n:Nat)(a0 a1 a2 a3 aV:aah)(bs:List Bool)(cl:List Int)(parts:List (List Nat))(aB:List (List Nat))(sg:List Nat)(S:Nat)(ls:List Int)(w:aaa)(hI:afD w tb gp cp gf cf g3 c3 a0 a1 a2 a3 aV bs cl parts aB S n)(xI:fQ (aM bs aB) S n (bn cl) parts)(hSt:Stable (aM bs aB) S n (bn cl))(hsg:sG sg S)(hsl:sg.length=ls.length)(hcl:cl.length=n)(hbl:bs.length=n)(hcz: ∀z∈cl,0≤z)(hpl:parts.length≤257)(hS: ∀q,q<n→(aB.getD q []).length=S∧∀a,a<S→(aB.getD q []).getD a 0<n)(hm:ls.length≤1000)(hSm:S≤1000)(h0:0<n)(hn:n≤1114112)(ha0:bD w a0 ls)(ha1:bD w a1 (aH sg)) :Calls Tryd.prog 57 #[.pointer (some ⟨tb,0,none⟩)] w (agV w bs aB sg S ls) :=by
 obtain⟨is,his,hs0,hs1,hs2⟩ :=info_parts Tryd.infoStD;have oI:Hid (Shut (aM bs aB) S n) :=fun q a hq ha=>(hS q hq).2 a ha;have LM:Hid (Parts (aM bs aB) S n (bn cl)) :=hSt.parts oI.out xI.coarse;have uI:Hid (∀c,c<parts.length→gG parts c<n∧bn cl (gG parts c)=c) :=fun c hc=>zG xI hc;have j4:=ah xI;have HDb:Hid (∀c,c<parts.length→(zC bs cl (runs (aB.getD (gG parts c) [])) (gG parts c)=true↔(aM bs aB).aW S (gG parts c)=bM)) :=fun c hc=>by obtain⟨r1,r2⟩ :=uI.out c hc;rw[Tn hcz (hS _ r1).1];exact LM.out.dead oI.out r1
 have Fj:=ah (fun q(hq:q<n)=>(hS q hq).1);have hK0:=xI.lt 0 h0;have HI:=ah hI;obtain⟨ad0,c0,rfl,hA0⟩ :=ha0;obtain⟨kM,c1,rfl,hA1⟩ :=ha1;rw[aK,hsl]at hI HI;simp only[aK,hsl]at hA1;have A9:=ah hsg;have BJ:=ah hsl;have MF:Hid (∀k,k<ls.length→∃g off,ad0=some ⟨g,off,none⟩∧w.cell? ⟨g,off+k,none⟩=some (.int .i64 (ls.getD k 0))) :=fun k hk=>by
  rcases hA0 with e| ⟨g,off,h1,_,h3⟩;·rw[e]at hk;simp at hk
  ·exact⟨g,off,h1,h3 k hk⟩
 have HA1:Hid (∀k,k<ls.length→∃g off,kM=some ⟨g,off,none⟩∧w.cell? ⟨g,off+k,none⟩=some (.int .i64 ((sg.getD k 0:Nat) :Int))) :=fun k hk=>by
  rcases hA1 with e| ⟨g,off,h1,_,h3⟩;·have:=congrArg abn e;rw[aK,hsl]at this;simp at this;rw[this]at hk;simp at hk
  ·refine⟨g,off,h1,?_⟩;rw[h3 k hk,iO _ _ (by rw[hsl];exact hk)]
 have hb1:aal w.heap.size w (w.alloc (.cells #[.slice none 0 0] 25)) :=(aas _ _).alloc (aaw _) _;have x7:(w.alloc (.cells #[.slice none 0 0] 25)).cell? ⟨tb,7,none⟩=some (.slice (some ⟨gp,0,none⟩) parts.length cp) :=aj (aC hI.box hb1) 7;have HX:=ah (hI.idx _ hb1);have hr1:(w.alloc (.cells #[.slice none 0 0] 25)).heap[w.heap.size]?=some (.cells #[.slice none 0 0] 25) :=aaV _ _;have hz1:(w.alloc (.cells #[.slice none 0 0] 25)).heap.size=w.heap.size+1:=by simp
 clear hI xI hSt hcz hS hA0 hA1 hsg hsl;go_enter Tryd.func57,Tryd.ntmps57;go_wp2_with fail;refine HX.out.mono ?_;rintro e w1⟨z,rfl,hz,hbz⟩;have hrz:=aC hr1 hbz;have hbw:aal w.heap.size w w1:=hb1.trans (hbz.mono hb1.size);have hsz1:=hbz.size;rw[hz1]at hsz1;have HIz:=ah hz;have HHr:=ah hrz;have pQ:=ah hbw;obtain⟨T,hT⟩ : ∃T,XW (wL (aM bs aB) sg S) (bn cl) (gG parts) (fun c=>decide (z=(c:Int)))=T:=⟨_,rfl⟩;have HT:=ah hT;have Co:Hid (∀c:Nat,T.dead c=decide (z=(c:Int))) :=fun c=>by rw[←hT];rfl
 have Gw:Hid (∀c k,T.aZ c k=bn cl ((aM bs aB).nx (gG parts c) (jU sg S k))) :=fun c k=>by rw[←hT];rfl
 have OL:Hid (∀c,T.fin c=bs.getD (gG parts c) false) :=fun c=>by rw[←hT];rfl
 have rD:Hid (∀c k,c<parts.length→k≤ls.length→T.aZ c k<parts.length) :=fun c k hc hk=>by rw[Gw.out];exact j4.out.lt _ (oI.out _ _ (uI.out c hc).1 (A9.out.lt k))
 have zg:Hid (∀c k,c<parts.length→k≤ls.length→(yS cl aB (gG parts c)).getD (jU sg S k) 0=T.aZ c k) :=fun c k hc hk=>by rw[Gw.out];have hl:=Fj.out _ (uI.out c hc).1;have hkk:=A9.out.lt k;unfold yS;show _=bn cl ((aB.getD (gG parts c) []).getD (jU sg S k) 0);rw[aa7,aaU,aa7 (l:=aB.getD (gG parts c) []),aa5 (by omega)];rfl
 have nQ:Hid (∀c,c<parts.length→(yS cl aB (gG parts c)).length=S) :=fun c hc=>by unfold yS;rw[aa4];exact Fj.out _ (uI.out c hc).1
 clear hz hrz hbw hT hr1 x7 HX Fj hb1 hbz hz1;obtain⟨K,hK⟩ : ∃K,bn cl 0=K:=⟨_,rfl⟩;have HK:=ah hK;rw[hK]at hK0;clear hK;have hz2:(w1.alloc (.cells #[.int .i64 z] 3)).heap.size=w1.heap.size+1:=by simp
 have hz3:((w1.alloc (.cells #[.int .i64 z] 3)).alloc (.cells #[.slice none 0 0] 25)).heap.size=w1.heap.size+1+1:=by simp
 have hb2:aal w1.heap.size w1 (w1.alloc (.cells #[.int .i64 z] 3)) :=(aas _ _).alloc (aaw _) _;have hb3:aal (w1.alloc (.cells #[.int .i64 z] 3)).heap.size (w1.alloc (.cells #[.int .i64 z] 3)) (((w1.alloc (.cells #[.int .i64 z] 3)).alloc (.cells #[.slice none 0 0] 25)).alloc (.cells #[.map none,.slice none 0 0] 142)) :=((aas _ _).alloc (aaw _) _).alloc (by rw[hz2,hz3];omega) _;have hb4:aal w1.heap.size w1 (((w1.alloc (.cells #[.int .i64 z] 3)).alloc (.cells #[.slice none 0 0] 25)).alloc (.cells #[.map none,.slice none 0 0] 142)) :=hb2.trans (hb3.mono hb2.size);have hb5:aal ((w1.alloc (.cells #[.int .i64 z] 3)).alloc (.cells #[.slice none 0 0] 25)).heap.size ((w1.alloc (.cells #[.int .i64 z] 3)).alloc (.cells #[.slice none 0 0] 25)) (((w1.alloc (.cells #[.int .i64 z] 3)).alloc (.cells #[.slice none 0 0] 25)).alloc (.cells #[.map none,.slice none 0 0] 142)) :=(aas _ _).alloc (aaw _) _
 have Ql:aal w.heap.size w (((w1.alloc (.cells #[.int .i64 z] 3)).alloc (.cells #[.slice none 0 0] 25)).alloc (.cells #[.map none,.slice none 0 0] 142)) :=pQ.out.trans (hb4.mono pQ.out.size);have HD0:Hid (Dc w (((w1.alloc (.cells #[.int .i64 z] 3)).alloc (.cells #[.slice none 0 0] 25)).alloc (.cells #[.map none,.slice none 0 0] 142)) w1.heap.size (w1.heap.size+1) (w1.heap.size+1+1) z (.slice none 0 0) (.map none) (.slice none 0 0) []) :=by
  refine⟨Ql,aC HHr.out hb4,aC (aaV _ _) hb3,?_,?_,by simp[Value.ownBlock],by omega,by omega⟩;·have:=aC (aaV (w1.alloc (.cells #[.int .i64 z] 3)) (.cells #[.slice none 0 0] 25)) hb5;rw[hz2]at this;exact this
  ·have:=qz (K:=dX) ((w1.alloc (.cells #[.int .i64 z] 3)).alloc (.cells #[.slice none 0 0] 25)) w.heap.size;rw[hz3]at this;exact this
 have x6:((((w1.alloc (.cells #[.int .i64 z] 3)).alloc (.cells #[.slice none 0 0] 25)).alloc (.cells #[.map none,.slice none 0 0] 142))).cell? ⟨tb,6,none⟩=some (.slice (some ⟨g3,0,none⟩) cl.length c3) :=aj (aC HI.out.box Ql) 6;have x0:((((w1.alloc (.cells #[.int .i64 z] 3)).alloc (.cells #[.slice none 0 0] 25)).alloc (.cells #[.map none,.slice none 0 0] 142))).cell? ⟨g3,0,none⟩=some (.int .i64 (K:Int)) :=by rw[Ql.cell (p:=⟨g3,0,none⟩) (cell_lt HI.out.afI),HI.out.afI,HK.out]
 have ag9:(0:Int)<(cl.length:Int) :=by omega
 go_upto_region 4 with fail;obtain⟨kb,hkb⟩ : ∃kb,w1.heap.size=kb:=⟨_,rfl⟩;rw[hkb]at HD0;simp only[hkb];clear hb2 hb3 hb4 hb5 hz2 hz3 Ql HHr pQ hkb hsz1;generalize(((w1.alloc (.cells #[.int .i64 z] 3)).alloc (.cells #[.slice none 0 0] 25)).alloc (.cells #[.map none,.slice none 0 0] 142))=W4 at*;go_wp2_with fail;refine(uW w.heap.size (kb+1+1) _ _ _ (K:Int) W4 ⟨by omega,by omega⟩ (by simp[aH]) HD0.out.below.size HD0.out.set).mono ?_;rintro e w2⟨rfl,yR,om,hs,gU,hat,_⟩;have HD1:Hid (Dc w w2 kb (kb+1) (kb+1+1) z (.slice none 0 0) yR om [K]∧bq w2 w.heap.size (.slice none 0 0) []) :=⟨HD0.out.place (by simpa[aH,meet]using hs) gU hat,bq.nil _ _⟩;clear hs gU hat HD0 x6 x0 ag9;go_wp2_with fail;go_loopw [7](fun iv wx=>∃(i:Nat)(o:List Nat)(l:List dK)(v vm aI:aah),iv= .int .i64 (i:Int)∧i≤o.length∧Dc w wx kb (kb+1) (kb+1+1) z v vm aI o∧bq wx w.heap.size v l∧eB (T.nexts ls.length) i 0 [K]=o∧(∀x∈o,x<parts.length)∧o.Nodup∧l.map Prod.snd=(o.take i).map (T.state ls.length ls o)∧(∀x∈o.take i,∀a,a≤ls.length→T.aZ x a∈o∨T.dead (T.aZ x a)=true))(fun iv _=>parts.length+1-(intOf iv).toNat)
 case atStart=>exact⟨0,[K],[],_,_,_,rfl,by simp,HD1.out.1,HD1.out.2,rfl,by simpa using hK0,by simp,by simp,by simp⟩
 case round=>
  clear HD1;obtain⟨i,o,l,v,vm,aI,rfl,vP,q1,q2,q3,q4,q5,q6,q7⟩ :=hrel;have fu:=ah q1;have gZ:=ah q2;have kz:=ah q3;have HQ4:=ah q4;have Jd:=ah q5;have Vp:=ah q6;have HQ7:=ah q7;have hol:o.length≤parts.length:=iA parts.length o q5 q4;have hll:l.length=i:=by have:=congrArg abn q6;rw[aa4,aa4,List.length_take]at this;omega
  have hrow:=q1.set.row;rw[ahL,aK]at hrow;obtain⟨adm,cm,rfl⟩ :=yZ hrow;have m1:wr.cell? ⟨kb+1+1,1,none⟩=some (.slice adm o.length cm) :=aj q1.set.box 1;clear q1 q2 q3 q4 q5 q6 q7;by_cases hlo:i<o.length
  ·have Y4:(i:Int)<(o.length:Int) :=by omega
   obtain⟨x,hx⟩ : ∃x,o[i]?=some x:=⟨o[i],aa5 hlo⟩;have hxp:=HQ4.out x (List.mem_of_getElem? hx);obtain⟨gm,cm',hgm⟩ :=dA hrow (by omega);simp only[Value.slice.injEq]at hgm;obtain⟨rfl,-,rfl⟩ :=hgm;have m2:wr.cell? ⟨gm,i,none⟩=some (.int .i64 (x:Int)) :=aQ hrow (by unfold zI aH;rw[aaU,aaU,hx];rfl);obtain⟨gv,ov,nv,cv,p1,p2,p3⟩ :=HI.out.part x hxp;have hbx:=fu.out.below;have p1':=(hbx.cell (p:=⟨gp,x,none⟩) (cell_lt p1)).trans p1;have p3':=(hbx.cell (p:=⟨gv,ov,none⟩) (cell_lt p3)).trans p3;have Z0:=(uI.out x hxp).1;have f1:=HI.out.fin _ Z0;have KS:=(hbx.cell (cell_lt f1)).trans f1;rw[←OL.out x]at KS;have x7:wr.cell? ⟨tb,7,none⟩=some (.slice (some ⟨gp,0,none⟩) parts.length cp) :=aj (aC HI.out.box hbx) 7;have x5:wr.cell? ⟨tb,5,none⟩=some (.slice (some ⟨gf,0,none⟩) bs.length cf) :=aj (aC HI.out.box hbx) 5
   obtain⟨P,hP⟩ : ∃P,gG parts x=P:=⟨_,rfl⟩;rw[hP]at p3' Z0 KS;have HP:=ah hP;obtain⟨fb,qX⟩ : ∃fb,T.fin x=fb:=⟨_,rfl⟩;rw[qX]at KS;have BQ:=ah qX;have HX:=ah hx;have ar0:(x:Int)<(parts.length:Int) :=by omega
   have anN:(0:Int)<(nv:Int) :=by omega
   have arK:(P:Int)<(bs.length:Int) :=by omega
   clear hP qX hx p1 p3 f1 hbx hrow;go_upto_region 9 with fail;go_quiet(fail);have HQq:=ah (fu.out.keep (below_drewN (aas _ _) nq));have HQd:=ah (gZ.out.below (below_drewN (aas _ _) nq));have x5q:(wr.drewN nq).cell? ⟨tb,5,none⟩=some (.slice (some ⟨gf,0,none⟩) bs.length cf) :=by simpa using x5
   have f1q:(wr.drewN nq).cell? ⟨gf,P,none⟩=some (.bool fb) :=by simpa using KS
   clear m1 m2 p1' p2 p3' x7 x5 KS fu gZ anN;generalize wr.drewN nq=W5 at*;go_upto_region 11 with fail;have HD7:=ah (HQq.out.start HQd.out fb 0);obtain⟨sb,hsb⟩ : ∃sb,W5.heap.size=sb:=⟨_,rfl⟩;rw[hsb]at HD7;simp only[hsb];clear hsb x5q f1q HQq HQd;generalize W5.alloc (.cells #[.bool fb,.slice none 0 0,.int .i64 0] 42)=W6 at*;go_wp2_with fail;refine(HI.out.lead W6 HD7.out.core.below P Z0).mono ?_;rintro e w3⟨vl,rfl,hl3,hb3⟩;have hkl:=nQ.out x hxp;rw[HP.out]at hkl;have HKL:=ah hkl;have HD8:=ah (HD7.out.lead hb3 (zs':=aH (yS cl aB P)) (by rw[aK,hkl];exact hl3));clear HD7 hl3 hb3 hkl;go_wp2_with fail;refine(HI.out.most w3 HD8.out.core.below P Z0 vl (bD.own HD8.out.ld)).mono ?_;rintro e w4⟨rfl,hb4⟩;have Zm:=ah (HD8.out.keep hb4);have hO:=zg.out x ls.length hxp (aaw _);rw[HP.out,←BJ.out,En,BJ.out]at hO;rw[hO];have x0:w4.cell? ⟨tb,0,none⟩=some (.slice ad0 ls.length c0) :=aj (aC HI.out.box Zm.out.core.below) 0
   clear HD8 hb4 hO;have hld:=Zm.out.ld;rw[aK,HKL.out]at hld;obtain⟨gl,cgl,rfl⟩ :=dA hld A9.out.pos;clear hld;have qD:=ah (aaM HQ4.out Jd.out (fun k hk=>rD.out x k hxp hk));go_wp2_with fail;go_loopw [70](fun kv wx=>∃(k:Nat)(vm aI va:aah),k≤ls.length∧kv= .int .i64 (k:Int)∧D7 w wx kb (kb+1) (kb+1+1) sb z v l vm aI (o7 T ls.length x o k) (.slice (some ⟨gl,0,none⟩) S cgl) (aH (yS cl aB P)) va fb (bJ T ls.length ls (o7 T ls.length x o k) x k) 0)(fun kv _=>ls.length-(intOf kv).toNat);case atStart=>exact⟨0,_,_,_,Nat.zero_le _,rfl,by rw[CV];exact Zm.out⟩
   case round=>
    clear Zm x0;obtain⟨k,dF,bG,va,hkm,rfl,hd⟩ :=hrel;have HD:=ah hd;clear hd;by_cases hk:k<ls.length
    ·have hkz:(k:Int)<(ls.length:Int) :=by omega
     obtain⟨j,hj⟩ : ∃j,sg.getD k 0=j:=⟨_,rfl⟩;have hjk:jU sg S k=j:=by rw[←hj];unfold jU;rw[if_pos (by rw[BJ.out];exact hk)]
     have hjS:j<S:=by rw[←hjk];exact A9.out.lt k
     have asq:(j:Int)<(S:Int) :=by omega
     obtain⟨g0,of0,rfl,l0⟩ :=MF.out k hk;obtain⟨gy,oy,rfl,y0⟩ :=HA1.out k hk;rw[hj]at y0;have hbw:=HD.out.core.below;have l1:=(hbw.cell (p:=⟨g0,of0+k,none⟩) (cell_lt l0)).trans l0;have y1:=(hbw.cell (p:=⟨gy,oy+k,none⟩) (cell_lt y0)).trans y0;have x1:wr.cell? ⟨tb,1,none⟩=some (.slice (some ⟨gy,oy,none⟩) ls.length c1) :=aj (aC HI.out.box hbw) 1;have hld:=HD.out.ld;rw[aK,HKL.out]at hld;have v1:wr.cell? ⟨gl,j,none⟩=some (.int .i64 ((T.aZ x k:Nat) :Int)) :=aQ hld (by have:=zg.out x k hxp (by omega);rw[HP.out,hjk]at this;unfold zI aH;rw[aaU,aaU,←this,aa7,aa5 (by rw[HKL.out];omega)];rfl);clear l0 y0 hbw hld hj hjk hjS;by_cases he:T.aZ x k=T.aZ x ls.length
     ·have hez:((T.aZ x k:Nat) :Int)=((T.aZ x ls.length:Nat) :Int) :=by rw[he]
      have HE:=ah (NB (o:=o) hk he ls);go_wp2_with fail;go_roundw;case rel=>exact⟨k+1,_,_,_,by omega,by go_num,by rw[HE.out.2,HE.out.1];exact HD.out⟩
      case measure=>simp[intOf];omega
     ·have hez: ¬((T.aZ x k:Nat) :Int)=((T.aZ x ls.length:Nat) :Int) :=by omega
      have HE:=ah (KX (o:=o) hk he ls);go_upto_region 18 with fail;have ajD:T.aZ x k<parts.length:=rD.out x k hxp (by omega);have anJ:(o7 T ls.length x o k).length≤parts.length:=iA parts.length _ (qD.out k).2 (qD.out k).1;have har:=Jp T ls.length ls (o7 T ls.length x o k) x k;refine aax (S:=fun _=>True) (by kernel_rfl) ?_;have hbd:aal wr.heap.size wr ({heap:=wr.heap,tape:=wr.tape,drawn:=wr.drawn+1,os:=wr.os,output:=wr.output} :aaa) :=(aas _ _).drew;generalize({heap:=wr.heap,tape:=wr.tape,drawn:=wr.drawn+1,os:=wr.os,output:=wr.output} :aaa)=Wd at*;have hSd:(fun _=>True:aaa→Prop) Wd:=trivial;have La:=HD.out.keep hbd;have hls:Wd.cell? ⟨sb,1,none⟩=some va:=aj La.cur.box 1;have Xn:=Cj T w.heap.size kb (kb+1+1) (T.aZ x k) z dF bG (o7 T ls.length x o k) Wd (Co.out _) (by omega) La.core.Ce La.core.set (by omega) La.core.below.size
      try refine tn ?_
      refine tx 0 ?_ (hS:=hSd);refine tx 2 ?_ (hS:=hSd);refine tx 3 ?_ (hS:=hSd);refine tx 4 ?_ (hS:=hSd);refine bX 1 5 (by kernel_rfl) ?ha1 ?hb1;case' ha1=>
       refine aP _ _ rfl (by kernel_rfl) (o9 _ _ _ _ rfl sb 1 va (by kernel_rfl) hls) ?_;refine⟨trivial,?_⟩;try refine tn ?_
       refine aF 5 (by kernel_rfl) ?_;refine bQ 80 #[.int .i64 ((T.aZ x k:Nat) :Int),.pointer (some ⟨kb,0,none⟩),.pointer (some ⟨kb+1+1,0,none⟩)] rfl (by kernel_rfl) (GN _ _ _ _ _ _ _ rfl _ _ _ (by kernel_rfl) (by kernel_rfl) (Tryd.call80 _ _)) ?_;refine Xn.mono ?_;rintro e w5⟨rfl,TG,Fs,hs5,Eu,Eh⟩;have hD5:=La.place hs5 Eu Eh;have hS5:(fun _=>True:aaa→Prop) w5:=trivial;refine⟨trivial,?_⟩;try refine tn ?_
       refine tx 6 ?_ (v:= .agg #[.int .i64 (ls.getD k 0),.int .i64 (T.num (dW T (o7 T ls.length x o k) (T.aZ x k)) (T.aZ x k))]) (hS:=hS5);refine aF 7 (by kernel_rfl) ?_;refine aP _ _ rfl (by kernel_rfl) (qO _ _ _ _ rfl (ls.getD k 0) (T.num (dW T (o7 T ls.length x o k) (T.aZ x k)) (T.aZ x k)) (by kernel_rfl)) ?_;refine⟨trivial,?_⟩
      case' hb1=>
       refine bQ 80 #[.int .i64 ((T.aZ x k:Nat) :Int),.pointer (some ⟨kb,0,none⟩),.pointer (some ⟨kb+1+1,0,none⟩)] rfl (by kernel_rfl) (GN _ _ _ _ _ _ _ rfl _ _ _ (by kernel_rfl) (by kernel_rfl) (Tryd.call80 _ _)) ?_;refine Xn.mono ?_;rintro e w5⟨rfl,TG,Fs,hs5,Eu,Eh⟩;have hD5:=La.place hs5 Eu Eh;have hS5:(fun _=>True:aaa→Prop) w5:=trivial;refine⟨trivial,?_⟩;try refine tn ?_
       refine tx 6 ?_ (v:= .agg #[.int .i64 (ls.getD k 0),.int .i64 (T.num (dW T (o7 T ls.length x o k) (T.aZ x k)) (T.aZ x k))]) (hS:=hS5);refine bX 1 7 (by kernel_rfl) ?hc1 ?hd1;case' hc1=>
        refine aP _ _ rfl (by kernel_rfl) (o9 _ _ _ _ rfl sb 1 va (by kernel_rfl) (aj hD5.cur.box 1)) ?_;refine⟨trivial,?_⟩;try refine tn ?_
        refine aF 7 (by kernel_rfl) ?_;refine aP _ _ rfl (by kernel_rfl) (qO _ _ _ _ rfl (ls.getD k 0) (T.num (dW T (o7 T ls.length x o k) (T.aZ x k)) (T.aZ x k)) (by kernel_rfl)) ?_;refine⟨trivial,?_⟩
       case' hd1=>
        refine aP _ _ rfl (by kernel_rfl) (qO _ _ _ _ rfl (ls.getD k 0) (T.num (dW T (o7 T ls.length x o k) (T.aZ x k)) (T.aZ x k)) (by kernel_rfl)) ?_;refine⟨trivial,?_⟩;try refine tn ?_
        refine aF 1 (by kernel_rfl) ?_;refine aP _ _ rfl (by kernel_rfl) (o9 _ _ _ _ rfl sb 1 va (by kernel_rfl) (aj (aC hD5.cur.box ((aas _ _).alloc (aaw _) _)) 1)) ?_;refine⟨trivial,?_⟩
      all_goals
       try refine tn ?_
       refine aF 8 (by kernel_rfl) ?_;refine yl rfl (by kernel_rfl) rfl _ _ rfl w.heap.size va _ _ (by kernel_rfl) hD5.cur.aR (ls.getD k 0) (T.num (dW T (o7 T ls.length x o k) (T.aZ x k)) (T.aZ x k)) w5.heap.size rfl (by kernel_rfl) (by omega) hD5.core.below.size ?_;intro g4 c4 W7 gY dH fD;have hA:=hD5.BU (a:=(ls.getD k 0,(T.num (dW T (o7 T ls.length x o k) (T.aZ x k)) (T.aZ x k)))) dH gY fD;have fI:(fun _=>True:aaa→Prop) W7:=trivial;refine⟨trivial,?_⟩;try refine tn ?_
       refine tx 9 ?_ (hS:=fI);refine aF 10 (by kernel_rfl) ?_;refine bI _ rfl (by kernel_rfl) (wR _ _ _ _ _ rfl sb 1 (some ⟨g4,0,none⟩) ((bJ T ls.length ls (o7 T ls.length x o k) x k).length+1) c4 va (by kernel_rfl) (by kernel_rfl) (aj hA.2 1) (bL hA.2 1)) ?_;refine⟨trivial,?_⟩;try refine tn ?_
       refine aaL (by kernel_rfl) ?_ _;have HDn:Hid (D7 w (W7.setCell ⟨sb,1,none⟩ (.slice (some ⟨g4,0,none⟩) ((bJ T ls.length ls (o7 T ls.length x o k) x k).length+1) c4)) kb (kb+1) (kb+1+1) sb z v l TG Fs (o7 T ls.length x o (k+1)) (.slice (some ⟨gl,0,none⟩) S cgl) (aH (yS cl aB P)) (.slice (some ⟨g4,0,none⟩) ((bJ T ls.length ls (o7 T ls.length x o k) x k).length+1) c4) fb (bJ T ls.length ls (o7 T ls.length x o (k+1)) x (k+1)) 0) :=by show D7 _ _ _ _ _ _ _ _ _ _ _ _ _ _ _ _ _ _;rw[HE.out.2,HE.out.1];exact hA.1
       clear gY dH fD hA fI hS5 hD5 hs5 Eu Eh Xn La hSd hbd hls HD HE l1 y1 x1 v1;go_wp2_with fail;go_roundw;case rel=>exact⟨k+1,TG,Fs,_,by omega,by go_num,HDn.out⟩
       case measure=>simp[intOf];omega
    ·have hkz: ¬(k:Int)<(ls.length:Int) :=by omega
     obtain rfl:k=ls.length:=by omega
     have ajD:T.aZ x ls.length<parts.length:=rD.out x ls.length hxp (aaw _);have anJ:(o7 T ls.length x o ls.length).length≤parts.length:=iA parts.length _ (qD.out _).2 (qD.out _).1;have har:=Jp T ls.length ls (o7 T ls.length x o ls.length) x ls.length;have aew:=ah (Cj T w.heap.size kb (kb+1+1) (T.aZ x ls.length) z dF bG (o7 T ls.length x o ls.length) wr (Co.out _) (by omega) HD.out.core.Ce HD.out.core.set (by omega) HD.out.core.below.size);go_wp2_with fail;refine aew.out.mono ?_;rintro e w5⟨rfl,TG,Fs,hs5,Eu,Eh⟩;have hD5:=HD.out.place hs5 Eu Eh;have HD5:=ah hD5;have s2:w5.cell? ⟨sb,2,none⟩=some (.int .i64 0) :=aj hD5.cur.box 2;have f2:=bL hD5.cur.box 2;obtain⟨e1,e2⟩ :=JS (T:=T) (m:=ls.length) (x:=x) (o:=o) ls;rw[←e1]at HD5;rw[←e2]at HD5;rw[←e1];have HD6:=ah (HD5.out.els (T.num (o7 T ls.length x o (ls.length+1)) (T.aZ x ls.length)))
     obtain⟨m1,m2,m3,m4⟩ :=Jv (T:=T) (ls:=ls) HX.out Vp.out HQ7.out;have Cs:=ah m1;have gW:=ah m2;have HM4:=ah m4;have DU:Hid (eB (T.nexts ls.length) (i+1) 0 [K]=(o7 T ls.length x o (ls.length+1))) :=by show _=_;rw[EC kz.out HX.out,De]
     have fZ:Hid (T.state ls.length ls (o7 T ls.length x o (ls.length+1)) x=(fb,bJ T ls.length ls (o7 T ls.length x o (ls.length+1)) x ls.length,T.num (o7 T ls.length x o (ls.length+1)) (T.aZ x ls.length))) :=by show _=_;rw[wG,BQ.out]
     have ane:(l.length+1)*40≤140737488355328:=by omega
     clear hs5 Eu Eh hD5 HD5 aew e1 e2 m1 m2 m3 m4 HD hll;go_upto_region 21 with fail;generalize hNe:T.num (o7 T ls.length x o (ls.length+1)) (T.aZ x ls.length)=Ne at*;generalize w5.setCell ⟨sb,2,none⟩ (.int .i64 Ne)=W2 at*;clear s2 f2 hNe;have dc:W2.cell? ⟨kb+1,0,none⟩=some v:=aj HD6.out.core.jk 0;have s0:W2.cell? ⟨sb,0,none⟩=some (.bool fb) :=aj HD6.out.cur.box 0;have s1:W2.cell? ⟨sb,1,none⟩=some va:=aj HD6.out.cur.box 1;have s2:W2.cell? ⟨sb,2,none⟩=some (.int .i64 Ne) :=aj HD6.out.cur.box 2;have uD:=ah HD6.out.cur.bZ.row;have hba:=HD6.out.core.below.size;have xG:Hid (∀y∈(#[.bool fb,va,.int .i64 Ne] :Array aah).toList,y.oneCell'=true) :=by show∀_,_;intro y hy;have h2:=HD6.out.cur.aR.2;exact aei
     go_wp2_with(at_builtin;refine nC rfl _ _ 23 42 rfl is (.agg #[.bool false,.slice none 0 0,.int .i64 0]) 3 40 Tryd.underlying23 his hs0 hs1 hs2 rfl (by decide) w.heap.size v _ _ rfl uD.out #[.bool fb,va,.int .i64 Ne] rfl xG.out rfl (by omega) (by decide) hba ?_);intro v' W3 hown3 xw mJ Bi;rcases hown3.2 with⟨e9,_⟩| ⟨g7,c7,wm,rfl,_⟩;·exact absurd e9 Bi
     obtain⟨hL6,hd3⟩ :=HD6.out.done xw hown3;have kI:=ah hL6;have dc3:W3.cell? ⟨kb+1,0,none⟩=some v:=aj hd3 0;have f3:=bL hd3 0;clear hL6 hd3 hown3 xw mJ Bi dc s0 s1 s2 uD xG HD6;go_wp2_with fail;go_roundw;case rel=>exact⟨i+1,(o7 T ls.length x o (ls.length+1)),_,_,TG,Fs,by go_num,HM4.out,kI.out.1,kI.out.2,DU.out,(qD.out _).1,(qD.out _).2,by rw[abl,abk];rw[←Cs.out];congr 1;rw[←fZ.out],gW.out⟩
     case measure=>simp[intOf];omega
  ·have Y4: ¬(i:Int)<(o.length:Int) :=by omega
   obtain rfl:i=o.length:=by omega
   have hKo:K∈o:=by obtain⟨r,hr⟩ :=rX (T.nexts ls.length) o.length 0 [K];rw[←kz.out,hr];simp
   have hop:=List.length_pos_of_mem hKo;have rT:Hid (bS.dx ls.length ls ((wL (aM bs aB) sg S).aW (ls.length+1) 0) (l.map Prod.snd)) :=by show Sys.dx _ _ _ _ _;have GG:T.dx ls.length ls K (l.map Prod.snd) :=⟨o,⟨o.length,kz.out,aaw _⟩,by rw[Vp.out,List.take_length]⟩;rw[←HT.out,←HK.out]at GG;have hx1:=Uu A9.out oI.out;have hx2:=RB A9.out LM.out;have hx3:=fun q=>Rq (A:=aM bs aB) (q:=q) A9.out;rw[BJ.out]at hx1 hx2 hx3;exact Parts.least hx1 hx2 h0 (fun q hq=>uI.out _ (j4.out.lt q hq)) (fun q hq=>(TL oI.out j4.out LM.out HIz.out HDb.out q hq).trans (hx3 q).symm) GG
   rcases gZ.out.row.2 with⟨_,h1⟩| ⟨g7,c7,wm,rfl,_⟩;·omega
   have dc:wr.cell? ⟨kb+1,0,none⟩=some (.slice (some ⟨g7,0,none⟩) l.length c7) :=aj fu.out.jk 0;have rc:wr.cell? ⟨w.heap.size,0,none⟩=some (.slice none 0 0) :=aj fu.out.res 0;have fc:=bL fu.out.res 0;have Uo:(wr.setCell ⟨w.heap.size,0,none⟩ (.slice (some ⟨g7,0,none⟩) l.length c7)).cell? ⟨w.heap.size,0,none⟩=some (.slice (some ⟨g7,0,none⟩) l.length c7) :=by have:=aL fu.out.res 0 (.slice (some ⟨g7,0,none⟩) l.length c7);rw[aj this 0];simp
   have Rc2:=ah Uo;clear Uo;have HFin:Hid (bq (wr.setCell ⟨w.heap.size,0,none⟩ (.slice (some ⟨g7,0,none⟩) l.length c7)) w.heap.size (.slice (some ⟨g7,0,none⟩) l.length c7) l∧aal w.heap.size w (wr.setCell ⟨w.heap.size,0,none⟩ (.slice (some ⟨g7,0,none⟩) l.length c7))) :=by
    have hr:=fu.out.res;refine⟨gZ.out.congr fun b cs t ht _ hh=> ?_,fu.out.below.trans (((But.refl (fun b=>b=w.heap.size) wr).set w.heap.size 0 _ rfl).below fu.out.below.size (fun j hj e=>by omega))⟩;rw[ay wr w.heap.size 0 _ b (by
     rintro rfl;rw[hr]at hh;simp only[aa3,Obj.cells.injEq]at hh;rcases ht with rfl|rfl;·exact absurd hh.2.1 (by decide)
     ·exact absurd hh.2.1 (by decide))];exact hh
   have hl4:l.length≤257:=by omega
   have Hl4:=ah hl4;clear hl4 hop hKo;generalize SY:l.length=Ll at*;have wV:=ah SY;clear SY;go_upto_region 22 with fail;refine wp_region_list ?_;refine yj rfl _ rfl (kb+1) (some ⟨g7,0,none⟩) Ll c7 (by kernel_rfl) dc ?_;refine vF rfl _ _ rfl w.heap.size (some ⟨g7,0,none⟩) Ll c7 (.slice none 0 0) (by kernel_rfl) (by kernel_rfl) rc fc ?_;refine wpList_nil ?_;unfold Exit.then;dsimp only;apply_assumption;refine wp_ret ?_;try refine tn ?_
   refine bodyPost_ret (v:= .agg #[.slice (some ⟨g7,0,none⟩) Ll c7]) (by have rc3:=Rc2.out;simp[results,Tryd.results57,go_sem,rc3]) rfl ?_;exact⟨_,l,rfl,HFin.out.1,rT.out,HFin.out.2,by rw[wV.out];exact Hl4.out,_,c7,by rw[wV.out]⟩
theorem Tryd.infoQ:(Tryd.prog.info? 66).map (fun i=>(i.zero,i.size,i.bytes))=some (some (.agg #[.int .i64 0,.int .i64 0]),2,16) :=by kernel_rfl
def fV:uz (Int×Int) :=⟨66,122,125,2,(fun x=>aaY #[.int .i64 x.1,.int .i64 x.2]),fun x=>#[Value.int .i64 x.1,.int .i64 x.2],(fun x=>(-9223372036854775808≤x.1∧x.1≤9223372036854775807)∧(-9223372036854775808≤x.2∧x.2≤9223372036854775807))⟩
theorem ajM:laidOutB Tryd.prog=true:=by kernel_rfl
theorem amY:WideMaps.KeyLaw Tryd.prog 66:=deep_law_laid ajM (m:=2) (by omega) (of_decide_eq_true (by kernel_rfl)) (by kernel_rfl) (by kernel_rfl)
theorem adR:Maps.Keyed Tryd.prog 66:=Maps.Keyed.of_law amY
theorem TJ:Tryd.prog.cellsOf 66=2:=by kernel_rfl
theorem ajG:Tryd.prog.keyType 66=true:=by kernel_rfl
theorem Uc:Tryd.prog.cellsOf 3=1:=by kernel_rfl
theorem Tq:(fV).Ok:=by
 refine⟨Tryd.underlying122,adR,fun l h=> ?_,fun x y h=> ?_⟩
 ·obtain⟨a,b⟩ :=l;obtain⟨⟨la,ua⟩,⟨lb,ub⟩⟩ :=h;dsimp only at la ua lb ub;have wa:(Lit.int .i64 a).wf=true:=WalkArith.wf_i64 (by omega);have wb:(Lit.int .i64 b).wf=true:=WalkArith.wf_i64 (by omega);obtain⟨m,hm⟩ : ∃m,Tryd.prog.types.size=m+1:=⟨Tryd.prog.types.size-1,by kernel_rfl⟩;have hf:(aaY #[.int .i64 a,.int .i64 b]).formed Tryd.prog 66=true:=by simp[Value.formed,Tryd.underlying66,TJ]
  have hk:Tryd.prog.keyLits (Tryd.prog.types.size+1) 66 (aaY #[.int .i64 a,.int .i64 b]).cells.toList=some [.int .i64 a,.int .i64 b] :=by rw[hm];simp[Program.keyLits,Tryd.underlying66,Tryd.underlying3,TJ,Uc,Value.cells,List.range,List.range.loop,wa,wb]
  refine⟨.string (keyBytes [.int .i64 a,.int .i64 b]),?_⟩;show keyOf Tryd.prog 66 (aaY #[.int .i64 a,.int .i64 b])=_;unfold keyOf;rw[Tryd.underlying66];simp only[ajG,hf,Bool.and_self,if_true,hk,Option.map_some]
 ·obtain⟨a,b⟩ :=x;obtain⟨a',b'⟩ :=y;simpa[fV]using h
theorem afc(W W':aaa)(ρ:aat→aah)(o:Oper)(m k v:aat)(ho:o.op= .mapUpdate 122 m k v)(vm vk vv:aah)(h1:ρ m=vm)(h2:ρ k=vk)(h3:ρ v=vv)(h:(Instr.mapUpdate 122 vm vk vv).run Tryd.prog W= .ok () W') :(aaF ρ o).run Tryd.prog W= .ok .skip W':=by exact WI
theorem Gr(W:aaa)(ρ:aat→aah)(o:Oper)(y:aat)(ho:o.op= .buildSlice 123 1 #[(0,y)])(x:(Int×Int))(hx:ρ y= .agg #[.int .i64 x.1,.int .i64 x.2]) :(aaF ρ o).run Tryd.prog W= .ok (.value (.slice (some ⟨W.heap.size,0,none⟩) 1 1)) (W.alloc (.cells #[.int .i64 x.1,.int .i64 x.2] 66)) :=by exact uA
theorem Gt(W:aaa)(ρ:aat→aah)(o:Oper)(x:aat)(ho:o.op= .load 123 x)(b off n c:Nat)(ad:Option Addr)(hx:ρ x= .pointer (some ⟨b,off,none⟩))(h0:W.cell? ⟨b,off,none⟩=some (.slice ad n c)) :(aaF ρ o).run Tryd.prog W= .ok (.value (.slice ad n c)) W:=by exact vG
theorem Om(W:aaa)(ρ:aat→aah)(o:Oper)(x y:aat)(ho:o.op= .store 123 x y)(b off g n c:Nat)(u:aah)(hx:ρ x= .pointer (some ⟨b,off,none⟩))(hy:ρ y= .slice (some ⟨g,0,none⟩) n c)(hc:W.cell? ⟨b,off,none⟩=some u)(hf:W.frozen? ⟨b,off,none⟩=false) :(aaF ρ o).run Tryd.prog W= .ok .skip (W.setCell ⟨b,off,none⟩ (.slice (some ⟨g,0,none⟩) n c)) :=by exact yu
theorem Dl {W:aaa} {ops:Array Oper} {i:Nat} {o:Oper} {a:Act} {K:Act→aaa→Prop} {Q:Exit→Act→aaa→Prop}(vP:ops[i]?=some o)(hw:Region.wanted o (yielded ops a.tmps)=true)(hgd:o.guard=none)(s x:aat)
    (ho:o.op= .call {callee:= .builtin .append,args:=#[s,x],argTypes:=#[123,123]})(i0:TypeInfo)(hi:Tryd.prog.info? 66=some i0)(hz:i0.zero=some (.agg #[.int .i64 0,.int .i64 0]))(hsize:i0.size=2)(hby:i0.bytes=16)
    (base:Nat)(v:aah)(n:Nat)(xs:List aah)(hs:a.eval s=v)(hown:W.ownsRow base 66 2 v n xs)(k:(Int×Int))(ad:Nat)(had:ad=W.heap.size)(hx:a.eval x= .slice (some ⟨ad,0,none⟩) 1 1)(hb:(n+1)*16≤140737488355328)(hbase:base≤W.heap.size)
    (h: ∀g cap w',w'.ownsRow base 66 2 (.slice (some ⟨g,0,none⟩) (n+1) cap) (n+1) (xs++((fV).cells k).toList)→But (fun b=>v.ownBlock=some b) W w'→(∀b,(aa' (some ⟨g,0,none⟩) (n+1) cap).ownBlock=some b→v.ownBlock=some b∨W.heap.size≤b)→K (a.put o.dst (.slice (some ⟨g,0,none⟩) (n+1) cap)) w') :
    wpOp Tryd.prog ops Q i K a (W.alloc (.cells ((fV).cells k) 66)) :=by
  refine mo vP hw ?_
  have:=lN (ops:=ops) (E:=True) (Q:=Q) hgd s x 123 66 ho i0 (.agg #[.int .i64 0,.int .i64 0]) 2 16 Tryd.underlying123 hi hz hsize hby rfl (by decide) base v n xs hs hown ((fV).cells k) rfl (by intro y hy;simp[fV]at hy;rcases hy with rfl|rfl<;>rfl) ad had hx hb (by decide) hbase h
  rwa [if_pos hw]at this
theorem acd(w:aaa) :(binOp BinOp.eql 122 (.map none) (.map none)).run Tryd.prog w= .ok (.bool true) w:=by first|kernel_rfl|simp[binOp,Tryd.underlying122]|go_simp
theorem YV(w:aaa)(mb:Nat) :(binOp BinOp.eql 122 (.map (some mb)) (.map none)).run Tryd.prog w= .ok (.bool false) w:=by first|kernel_rfl|simp[binOp,Tryd.underlying122]|go_simp
theorem YE(w:aaa) :(aa8 122 none).run Tryd.prog w= .ok (.map (some w.heap.size)) (w.alloc (.map #[] 0)) :=by first|kernel_rfl|simp[aa8,Tryd.underlying122]|go_simp
theorem F8(base sb:Nat)(vm vs:aah)(L:List (Int×Int))(x:(Int×Int))(W:aaa)(hok:(fV).ok x)(hb:(L.length+1)*16≤140737488355328)(hbase:base≤W.heap.size)(h:bA fV W base sb vm vs L) :Calls Tryd.prog 73 #[.pointer (some ⟨sb,0,none⟩),(fV).enc x] W (Gd fV W base sb vm vs L x) :=by
 obtain⟨i0,hi0,hz0,hz1,hz2⟩ :=info_parts Tryd.infoQ;have hW:aal W.heap.size W (W.alloc (.cells #[.int .i64 x.1,.int .i64 x.2] 66)) :=(aas _ _).alloc (aaw _) _;have hbx:(W.alloc (.cells #[.int .i64 x.1,.int .i64 x.2] 66)).heap[W.heap.size]?=some (.cells #[.int .i64 x.1,.int .i64 x.2] 66) :=aaV _ _;have hz:(W.alloc (.cells #[.int .i64 x.1,.int .i64 x.2] 66)).heap.size=W.heap.size+1:=by simp
 have h0:=h.below hW;have hmn:=acd;have hms:=YV;have lT:Hid (∀b,bB sb vm vs b→b≠W.heap.size) :=fun b hb' e=>by have:=(h.blk hb').1;omega
 have jO:=h.oks;have hnd:=h.nodup;show Calls Tryd.prog 73 #[.pointer (some ⟨sb,0,none⟩),.agg #[.int .i64 x.1,.int .i64 x.2]] W _;go_enter Tryd.func73,Tryd.ntmps73;go_wp2_with fail;clear h;generalize hW0:W.alloc (.cells #[.int .i64 x.1,.int .i64 x.2] 66)=W0 at*;clear hW0;generalize hn0:W.heap.size=n0 at*;have wD:=ah hn0;have HW:=ah hW;have HZ:=ah hz;have uN:=ah hbx;have H0:=ah h0;have c0:W0.cell? ⟨sb,0,none⟩=some vm:=aj h0.box 0;have b0:W0.cell? ⟨n0,0,none⟩=some (.int .i64 x.1) :=aj hbx 0;have b1:W0.cell? ⟨n0,1,none⟩=some (.int .i64 x.2) :=aj hbx 1;clear hn0 hW hz hbx;obtain⟨ad,cp,rfl⟩ : ∃ad cp,vs= .slice ad L.length cp:=by exact WE
 by_cases hx:x∈L
 ·obtain⟨mb,rfl,hm1,hm2⟩ : ∃mb,vm= .map (some mb)∧base≤mb∧jy fV W0 mb L:=by exact QX
  obtain⟨j,h1,h2⟩ : ∃j:Nat,L[j]?=some x∧(aaA 122 (.map (some mb)) (.agg #[.int .i64 x.1,.int .i64 x.2]) true).run Tryd.prog W0.drew= .ok (.tuple #[.int .i64 (j:Int),.bool true]) W0.drew:=by
   rcases(hm2.keep (w':=W0.drew) rfl).look Tq jO x hok with⟨h1,_⟩| ⟨j,h1,h2⟩;·exact absurd hx h1
   ·exact⟨j,h1,h2⟩
  have HJ:Hid (ix L x=j) :=uP hnd h1;have HM:=ah (dZ hx);clear h0 h1 hm2 hx hnd jO;refine aax (S:=fun u=>u.cell? ⟨sb,0,none⟩=some (.map (some mb))∧u.cell? ⟨n0,0,none⟩=some (.int .i64 x.1)∧u.cell? ⟨n0,1,none⟩=some (.int .i64 x.2)∧(aaA 122 (.map (some mb)) (.agg #[.int .i64 x.1,.int .i64 x.2]) true).run Tryd.prog u= .ok (.tuple #[.int .i64 (j:Int),.bool true]) u) (by kernel_rfl) ?_;have hS:(fun u=>u.cell? ⟨sb,0,none⟩=some (.map (some mb))∧u.cell? ⟨n0,0,none⟩=some (.int .i64 x.1)∧u.cell? ⟨n0,1,none⟩=some (.int .i64 x.2)∧(aaA 122 (.map (some mb)) (.agg #[.int .i64 x.1,.int .i64 x.2]) true).run Tryd.prog u= .ok (.tuple #[.int .i64 (j:Int),.bool true]) u) ({heap:=W0.heap,tape:=W0.tape,drawn:=W0.drawn+1,os:=W0.os,output:=W0.output} :aaa) :=⟨c0,b0,b1,h2⟩;have hBd:aal W0.heap.size W0 ({heap:=W0.heap,tape:=W0.tape,drawn:=W0.drawn+1,os:=W0.os,output:=W0.output} :aaa) :=(aas _ _).drew
  generalize({heap:=W0.heap,tape:=W0.tape,drawn:=W0.drawn+1,os:=W0.os,output:=W0.output} :aaa)=W1 at*;try refine tn ?_
  refine tx 0 ?_ (hS:=hS);refine tx 1 ?_ (hS:=hS);refine tx 2 ?_ (hS:=hS);refine tx 3 ?_ (hS:=hS);refine tx 4 ?_ (v:= .agg #[.int .i64 x.1,.int .i64 x.2]) (hS:=hS);refine tx 5 ?_ (v:= .tuple #[.int .i64 (j:Int),.bool true]) (hS:=hS);refine tx 6 ?_ (hS:=hS);refine tx 7 ?_ (hS:=hS);refine tx 8 ?_ (hS:=hS);refine tx 9 ?_ (hS:=hS);refine tx 10 ?_ (hS:=hS);refine aaL (by kernel_rfl) ?_ _;clear hS h2 c0 b0 b1;have jX:=ah hBd;clear hBd;go_wp2_with fail;go_ret;exact⟨by rw[HM.out,HJ.out];rfl,_,_,by rw[HM.out];exact H0.out.below jX.out,But.of_below (by rw[wD.out];exact HW.out.trans (jX.out.mono (by rw[HZ.out];omega))),fun b hb=>aar hb,fun b hb=>aar hb⟩
 ·have HI:Hid (ix (meet L x) x=L.length) :=by show _=_;rw[cK hx,jr hx]
  have HM:=ah (cK hx);have HX:=ah hx;have j4:=ah jO;have wI:Hid (∀y∈L++ [x],(fV).ok y) :=fun y hy=>by exact WX
  have Cb:Hid ((L++ [x]).Nodup) :=by exact Wn
  have hln:((L.length:Nat) :Int)≤140737488355328:=by omega
  rcases h0.map with⟨rfl,hl⟩| ⟨mb,rfl,hmb,hmk⟩
  ·have h2:=look_nil Tq W0.drew x hok;have HL:=ah hl;clear h0 hl hx hnd jO;refine aax (S:=fun u=>u.cell? ⟨sb,0,none⟩=some (.map none)∧u.cell? ⟨n0,0,none⟩=some (.int .i64 x.1)∧u.cell? ⟨n0,1,none⟩=some (.int .i64 x.2)∧(aaA 122 (.map none) (.agg #[.int .i64 x.1,.int .i64 x.2]) true).run Tryd.prog u= .ok (.tuple #[.int .i64 0,.bool false]) u) (by kernel_rfl) ?_;have hS:(fun u=>u.cell? ⟨sb,0,none⟩=some (.map none)∧u.cell? ⟨n0,0,none⟩=some (.int .i64 x.1)∧u.cell? ⟨n0,1,none⟩=some (.int .i64 x.2)∧(aaA 122 (.map none) (.agg #[.int .i64 x.1,.int .i64 x.2]) true).run Tryd.prog u= .ok (.tuple #[.int .i64 0,.bool false]) u) ({heap:=W0.heap,tape:=W0.tape,drawn:=W0.drawn+1,os:=W0.os,output:=W0.output} :aaa) :=⟨c0,b0,b1,h2⟩;have hBd:aal W0.heap.size W0 ({heap:=W0.heap,tape:=W0.tape,drawn:=W0.drawn+1,os:=W0.os,output:=W0.output} :aaa) :=(aas _ _).drew
   generalize({heap:=W0.heap,tape:=W0.tape,drawn:=W0.drawn+1,os:=W0.os,output:=W0.output} :aaa)=W1 at*;try refine tn ?_
   refine tx 0 ?_ (hS:=hS);refine tx 1 ?_ (hS:=hS);refine tx 2 ?_ (hS:=hS);refine tx 3 ?_ (hS:=hS);refine tx 4 ?_ (v:= .agg #[.int .i64 x.1,.int .i64 x.2]) (hS:=hS);refine tx 5 ?_ (v:= .tuple #[.int .i64 0,.bool false]) (hS:=hS);refine tx 6 ?_ (hS:=hS);refine tx 7 ?_ (hS:=hS);refine tx 8 ?_ (hS:=hS);refine tx 9 ?_ (hS:=hS);refine tx 10 ?_ (hS:=hS);refine aaL (by kernel_rfl) ?_ _;have H1:=ah (H0.out.below hBd);have jT:=ah (aC uN.out hBd);have jX:=ah hBd;have KY:(aa8 122 none).run Tryd.prog W1= .ok (.map (some W1.heap.size)) (W1.alloc (.map #[] 0)) :=YE W1;have hsb:=H1.out.lt;have uC:(W1.alloc (.map #[] 0)).heap[sb]?=some (.cells #[.map none,.slice ad L.length cp] 125) :=(aaE _ _ _ hsb).trans H1.out.box;have hb2:((W1.alloc (.map #[] 0)).setCell ⟨sb,0,none⟩ (.map (some W1.heap.size))).heap[sb]?=some (.cells #[.map (some W1.heap.size),.slice ad L.length cp] 125) :=by exact Xw
   have gW:Hid (jy fV ((W1.alloc (.map #[] 0)).setCell ⟨sb,0,none⟩ (.map (some W1.heap.size))) W1.heap.size L) :=by exact XD
   have H7:n0≠sb:=fun e=>lT.out sb (aar rfl) e.symm;have jw:((W1.alloc (.map #[] 0)).setCell ⟨sb,0,none⟩ (.map (some W1.heap.size))).heap[n0]?=some (.cells #[.int .i64 x.1,.int .i64 x.2] 66) :=by exact V7
   have dO:Hid (((W1.alloc (.map #[] 0)).setCell ⟨sb,0,none⟩ (.map (some W1.heap.size))).ownsRow base 66 2 (.slice ad L.length cp) L.length (gV fV L)) :=aG H1.out.row (fun b hk=>by obtain⟨_,cur,h2⟩ :=aA H1.out.row hk;rw[ay _ sb 0 _ b (aN h2 H1.out.box (by decide)),aaE _ _ _ (Array.getElem?_eq_some_iff.1 h2).1]);have xQ:Hid (W1.heap.size≠sb) :=by show _≠_;omega
   have Cy:Hid (W1.heap.size≠n0) :=by have:=(Array.getElem?_eq_some_iff.1 jT.out).1;show _≠_;omega
   have hB1:aal n0 W W1:=HW.out.trans (hBd.mono (by rw[HZ.out];omega));have kT:Hid (But (bB sb (.map none) (.slice ad L.length cp)) W ((W1.alloc (.map #[] 0)).setCell ⟨sb,0,none⟩ (.map (some W1.heap.size)))) :=((But.of_below (by rw[wD.out];exact hB1)).alloc _).set sb 0 _ (aar rfl);have yD:Hid (abd none= .map (some W1.heap.size)∨W.heap.size≤W1.heap.size) :=aap hB1.size;have wP:Hid (bB sb (.map none) (.slice ad L.length cp) W1.heap.size∨W.heap.size≤W1.heap.size) :=aap hB1.size;have mF:Hid (base≤W1.heap.size) :=aaK hbase (by rw[←wD.out];exact hB1.size);have hcap2:base≤((W1.alloc (.map #[] 0)).setCell ⟨sb,0,none⟩ (.map (some W1.heap.size))).heap.size:=by have:=mF.out;simp;omega
   have OG: ∀j,(W1.alloc (.map #[] 0)).frozen? ⟨sb,j,none⟩=false:=fun j=>aa1 _ sb j _ _ uC;have cA:(W1.alloc (.map #[] 0)).cell? ⟨sb,0,none⟩=some (.map none) :=aj uC 0;have cB:W1.cell? ⟨sb,0,none⟩=some (.map none) :=aj H1.out.box 0;have cC:((W1.alloc (.map #[] 0)).setCell ⟨sb,0,none⟩ (.map (some W1.heap.size))).cell? ⟨sb,1,none⟩=some (.slice ad L.length cp) :=aj hb2 1;clear hS h2 c0 b0 b1 hBd hsb H7 uC hB1;go_wp2_with fail;clear cA cB cC OG KY;generalize(W1.alloc (.map #[] 0)).setCell ⟨sb,0,none⟩ (.map (some W1.heap.size))=W2 at*;generalize W1.heap.size=mb at*;have d0:W2.cell? ⟨sb,0,none⟩=some (.map (some mb)) :=aj hb2 0;have e0:W2.cell? ⟨n0,0,none⟩=some (.int .i64 x.1) :=aj jw 0;have e1:W2.cell? ⟨n0,1,none⟩=some (.int .i64 x.2) :=aj jw 1;refine aax (S:=fun u=>u.cell? ⟨sb,0,none⟩=some (.map (some mb))∧u.cell? ⟨n0,0,none⟩=some (.int .i64 x.1)∧u.cell? ⟨n0,1,none⟩=some (.int .i64 x.2)) (by kernel_rfl) ?_
   have dV:(fun u=>u.cell? ⟨sb,0,none⟩=some (.map (some mb))∧u.cell? ⟨n0,0,none⟩=some (.int .i64 x.1)∧u.cell? ⟨n0,1,none⟩=some (.int .i64 x.2)) ({heap:=W2.heap,tape:=W2.tape,drawn:=W2.drawn+1,os:=W2.os,output:=W2.output} :aaa) :=⟨d0,e0,e1⟩;have cO:aal W2.heap.size W2 ({heap:=W2.heap,tape:=W2.tape,drawn:=W2.drawn+1,os:=W2.os,output:=W2.output} :aaa) :=(aas _ _).drew;generalize({heap:=W2.heap,tape:=W2.tape,drawn:=W2.drawn+1,os:=W2.os,output:=W2.output} :aaa)=Wd at*;try refine tn ?_
   refine tx 0 ?_ (hS:=dV);refine tx 1 ?_ (hS:=dV);refine tx 2 ?_ (hS:=dV);refine tx 3 ?_ (hS:=dV);refine tx 4 ?_ (v:= .agg #[.int .i64 x.1,.int .i64 x.2]) (hS:=dV);refine tx 5 ?_ (hS:=dV);obtain⟨W3,hput,mU,hg3,hz3⟩ :=(gW.out.keep (cO.block _ gW.out.lt)).put Tq j4.out x hok HX.out;try refine tn ?_
   refine aF 6 (by kernel_rfl) ?_;refine bI W3 rfl (by kernel_rfl) (afc _ _ _ _ _ _ _ rfl _ _ _ (by kernel_rfl) (by kernel_rfl) (by kernel_rfl) hput) ?_;have hb3:W3.heap[sb]?=some (.cells #[.map (some mb),.slice ad L.length cp] 125) :=(hg3.block sb (aau (Array.getElem?_eq_some_iff.1 hb2).1 cO.size) (fun e=>xQ.out (by simpa using e.symm))).trans (aC hb2 cO);have gJ:W3.heap[n0]?=some (.cells #[.int .i64 x.1,.int .i64 x.2] 66) :=(hg3.block n0 (aau (Array.getElem?_eq_some_iff.1 jw).1 cO.size) (fun e=>Cy.out (by simpa using e.symm))).trans (aC jw cO);refine⟨⟨aj hb3 0,aj gJ 0,aj gJ 1⟩,?_⟩;try refine tn ?_
   refine aaL (by kernel_rfl) ?_ _;have iC:Hid (W3.ownsRow base 66 2 (.slice ad L.length cp) L.length (gV fV L)) :=aG dO.out (fun b hk=>(hg3.block b (aau (Array.getElem?_eq_some_iff.1 (aA dO.out hk).2.choose_spec).1 cO.size) (fun e=>by
    obtain⟨_,cur,h2⟩ :=aA dO.out hk;obtain⟨es,c,h3,_⟩ :=gW.out;have e':b=mb:=by simpa using e
    rw[e',h3]at h2;cases h2)).trans (cO.block b (Array.getElem?_eq_some_iff.1 (aA dO.out hk).2.choose_spec).1));have jJ:Hid (But (bB sb (.map none) (.slice ad L.length cp)) W W3) :=(kT.out.trans (But.of_below (X:=fun _=>False) cO) (fun _ _ h=>h) (fun _ _ h=>h.elim)).grown hg3 (fun k hk=>by
    have:mb=k:=by simpa using hk
    subst this;exact wP.out);have qP:base≤W3.heap.size:=by rw[hz3];exact aaK hcap2 cO.size
   have uu:=ah mU;have HB3:=ah hb3;have dR:=ah gJ;have f1:W3.cell? ⟨sb,1,none⟩=some (.slice ad L.length cp) :=aj hb3 1;clear hput mU hg3 hz3 dV cO d0;go_wp2_with fail;refine aax (S:=fun u=>u.cell? ⟨n0,0,none⟩=some (.int .i64 x.1)∧u.cell? ⟨n0,1,none⟩=some (.int .i64 x.2)) (by kernel_rfl) ?_;have fI:(fun u=>u.cell? ⟨n0,0,none⟩=some (.int .i64 x.1)∧u.cell? ⟨n0,1,none⟩=some (.int .i64 x.2)) ({heap:=W3.heap,tape:=W3.tape,drawn:=W3.drawn+1,os:=W3.os,output:=W3.output} :aaa) :=⟨aj gJ 0,aj gJ 1⟩;have bT:aal W3.heap.size W3 ({heap:=W3.heap,tape:=W3.tape,drawn:=W3.drawn+1,os:=W3.os,output:=W3.output} :aaa) :=(aas _ _).drew;generalize({heap:=W3.heap,tape:=W3.tape,drawn:=W3.drawn+1,os:=W3.os,output:=W3.output} :aaa)=We at*;have hb4:We.heap[sb]?=some (.cells #[.map (some mb),.slice ad L.length cp] 125) :=aC HB3.out bT
   try refine tn ?_
   refine tx 0 ?_ (hS:=fI);refine tx 1 ?_ (hS:=fI);refine tx 2 ?_ (hS:=fI);refine tx 3 ?_ (hS:=fI);refine tx 5 ?_ (v:= .agg #[.int .i64 x.1,.int .i64 x.2]) (hS:=fI);have lY:(fun u=>u.cell? ⟨n0,0,none⟩=some (.int .i64 x.1)∧u.cell? ⟨n0,1,none⟩=some (.int .i64 x.2)) (We.alloc (.cells #[.int .i64 x.1,.int .i64 x.2] 66)) :=⟨(aj ((aaE We (.cells #[.int .i64 x.1,.int .i64 x.2] 66) n0 (aau (Array.getElem?_eq_some_iff.1 dR.out).1 bT.size)).trans (aC dR.out bT)) 0),(aj ((aaE We (.cells #[.int .i64 x.1,.int .i64 x.2] 66) n0 (aau (Array.getElem?_eq_some_iff.1 dR.out).1 bT.size)).trans (aC dR.out bT)) 1)⟩;have dD:(We.alloc (.cells #[.int .i64 x.1,.int .i64 x.2] 66)).heap[sb]?=some (.cells #[.map (some mb),.slice ad L.length cp] 125) :=(aaE _ _ _ (Array.getElem?_eq_some_iff.1 hb4).1).trans hb4
   refine bX 4 6 (by kernel_rfl) ?VA ?Tt;case' VA=>
    refine aP _ _ rfl (by kernel_rfl) (Gt _ _ _ _ rfl sb 1 L.length cp ad (by kernel_rfl) (aj hb4 1)) ?_;refine⟨fI,?_⟩;try refine tn ?_
    refine aF 6 (by kernel_rfl) ?_;refine aP _ _ rfl (by kernel_rfl) (Gr _ _ _ _ rfl x (by kernel_rfl)) ?_;refine⟨lY,?_⟩;try refine tn ?_
   case' Tt=>
    refine aP _ _ rfl (by kernel_rfl) (Gr _ _ _ _ rfl x (by kernel_rfl)) ?_;refine⟨lY,?_⟩;try refine tn ?_
    refine aF 4 (by kernel_rfl) ?_;refine aP _ _ rfl (by kernel_rfl) (Gt _ _ _ _ rfl sb 1 L.length cp ad (by kernel_rfl) (aj dD 1)) ?_;refine⟨lY,?_⟩;try refine tn ?_
   all_goals
    refine aF 7 (by kernel_rfl) ?_;refine Dl rfl (by kernel_rfl) rfl _ _ rfl i0 hi0 hz0 hz1 hz2 base _ L.length (gV fV L) (by kernel_rfl) (aG iC.out (fun b hk=>bT.block b (Array.getElem?_eq_some_iff.1 (aA iC.out hk).2.choose_spec).1)) x We.heap.size rfl (by kernel_rfl) hb (aaK qP bT.size) ?_;intro g c W4 gY dH fD;have HP:=bA.pushed (K:=fV) (by decide) hb4 (uu.out.keep (bT.block _ uu.out.lt)) mF.out (aG iC.out (fun b hk=>bT.block b (Array.getElem?_eq_some_iff.1 (aA iC.out hk).2.choose_spec).1)) dH gY Cb.out wI.out;have hb5:W4.heap[sb]?=some (.cells #[.map (some mb),.slice ad L.length cp] 125) :=HP.2;have dM:W4.heap[n0]?=some (.cells #[.int .i64 x.1,.int .i64 x.2] 66) :=(dH.block n0 (aau (Array.getElem?_eq_some_iff.1 dR.out).1 bT.size) (fun e=>lT.out n0 (aap (aap e)) rfl)).trans (aC dR.out bT);refine⟨⟨aj dM 0,aj dM 1⟩,?_⟩
    try refine tn ?_
    refine tx 8 ?_ (hS:=⟨aj dM 0,aj dM 1⟩);refine tx 9 ?_ (hS:=⟨aj dM 0,aj dM 1⟩);refine aF 10 (by kernel_rfl) ?_;refine bI _ rfl (by kernel_rfl) (Om _ _ _ _ _ rfl sb 1 g (L.length+1) c _ (by kernel_rfl) (by kernel_rfl) (aj hb5 1) (aa1 _ sb 1 _ _ hb5)) ?_;have nG:(W4.setCell ⟨sb,1,none⟩ (.slice (some ⟨g,0,none⟩) (L.length+1) c)).heap[n0]?=some (.cells #[.int .i64 x.1,.int .i64 x.2] 66) :=(ay W4 sb 1 _ n0 (fun e=>lT.out sb (aar rfl) e.symm)).trans dM;refine⟨⟨aj nG 0,aj nG 1⟩,?_⟩;exact zc5
  ·have h2:(aaA 122 (.map (some mb)) (.agg #[.int .i64 x.1,.int .i64 x.2]) true).run Tryd.prog W0.drew= .ok (.tuple #[.int .i64 0,.bool false]) W0.drew:=by
    rcases(hmk.keep (w':=W0.drew) rfl).look Tq jO x hok with⟨_,h4⟩| ⟨j,h4,_⟩;·exact h4
    ·exact JR
   clear h0 hx hnd jO;refine aax (S:=fun u=>u.cell? ⟨sb,0,none⟩=some (.map (some mb))∧u.cell? ⟨n0,0,none⟩=some (.int .i64 x.1)∧u.cell? ⟨n0,1,none⟩=some (.int .i64 x.2)∧(aaA 122 (.map (some mb)) (.agg #[.int .i64 x.1,.int .i64 x.2]) true).run Tryd.prog u= .ok (.tuple #[.int .i64 0,.bool false]) u) (by kernel_rfl) ?_;have hS:(fun u=>u.cell? ⟨sb,0,none⟩=some (.map (some mb))∧u.cell? ⟨n0,0,none⟩=some (.int .i64 x.1)∧u.cell? ⟨n0,1,none⟩=some (.int .i64 x.2)∧(aaA 122 (.map (some mb)) (.agg #[.int .i64 x.1,.int .i64 x.2]) true).run Tryd.prog u= .ok (.tuple #[.int .i64 0,.bool false]) u) ({heap:=W0.heap,tape:=W0.tape,drawn:=W0.drawn+1,os:=W0.os,output:=W0.output} :aaa) :=⟨c0,b0,b1,h2⟩;have hBd:aal W0.heap.size W0 ({heap:=W0.heap,tape:=W0.tape,drawn:=W0.drawn+1,os:=W0.os,output:=W0.output} :aaa) :=(aas _ _).drew
   generalize({heap:=W0.heap,tape:=W0.tape,drawn:=W0.drawn+1,os:=W0.os,output:=W0.output} :aaa)=W1 at*;try refine tn ?_
   refine tx 0 ?_ (hS:=hS);refine tx 1 ?_ (hS:=hS);refine tx 2 ?_ (hS:=hS);refine tx 3 ?_ (hS:=hS);refine tx 4 ?_ (v:= .agg #[.int .i64 x.1,.int .i64 x.2]) (hS:=hS);refine tx 5 ?_ (v:= .tuple #[.int .i64 0,.bool false]) (hS:=hS);refine tx 6 ?_ (hS:=hS);refine tx 7 ?_ (hS:=hS);refine tx 8 ?_ (hS:=hS);refine tx 9 ?_ (hS:=hS);refine tx 10 ?_ (hS:=hS);refine aaL (by kernel_rfl) ?_ _;have H1:=ah (H0.out.below hBd);have hb2:=H1.out.box;have jw:=aC uN.out hBd;have gW:=ah (hmk.keep (hBd.block _ hmk.lt));have dO:=ah H1.out.row;have xQ:Hid (mb≠sb) :=by exact Y0
   have Cy:Hid (mb≠n0) :=lT.out mb (aap (aar rfl));have kT:Hid (But (bB sb (.map (some mb)) (.slice ad L.length cp)) W W1) :=But.of_below (by rw[wD.out];exact HW.out.trans (hBd.mono (by rw[HZ.out];omega)));have yD:Hid (abd (some mb)= .map (some mb)∨W.heap.size≤mb) :=aar rfl;have wP:Hid (bB sb (.map (some mb)) (.slice ad L.length cp) mb∨W.heap.size≤mb) :=aar (aap (aar rfl));have mF:=ah hmb;have hcap2:base≤W1.heap.size:=aaK hbase (aaK (by rw[HZ.out];omega) hBd.size);have cB:W1.cell? ⟨sb,0,none⟩=some (.map (some mb)) :=aj hb2 0;have cC:W1.cell? ⟨sb,1,none⟩=some (.slice ad L.length cp) :=aj hb2 1;clear hS h2 c0 b0 b1 hBd hmk hmb;go_wp2_with fail;clear cB cC;generalize W1=W2 at*;have d0:W2.cell? ⟨sb,0,none⟩=some (.map (some mb)) :=aj hb2 0;have e0:W2.cell? ⟨n0,0,none⟩=some (.int .i64 x.1) :=aj jw 0
   have e1:W2.cell? ⟨n0,1,none⟩=some (.int .i64 x.2) :=aj jw 1;refine aax (S:=fun u=>u.cell? ⟨sb,0,none⟩=some (.map (some mb))∧u.cell? ⟨n0,0,none⟩=some (.int .i64 x.1)∧u.cell? ⟨n0,1,none⟩=some (.int .i64 x.2)) (by kernel_rfl) ?_;have dV:(fun u=>u.cell? ⟨sb,0,none⟩=some (.map (some mb))∧u.cell? ⟨n0,0,none⟩=some (.int .i64 x.1)∧u.cell? ⟨n0,1,none⟩=some (.int .i64 x.2)) ({heap:=W2.heap,tape:=W2.tape,drawn:=W2.drawn+1,os:=W2.os,output:=W2.output} :aaa) :=⟨d0,e0,e1⟩;have cO:aal W2.heap.size W2 ({heap:=W2.heap,tape:=W2.tape,drawn:=W2.drawn+1,os:=W2.os,output:=W2.output} :aaa) :=(aas _ _).drew;generalize({heap:=W2.heap,tape:=W2.tape,drawn:=W2.drawn+1,os:=W2.os,output:=W2.output} :aaa)=Wd at*;try refine tn ?_
   refine tx 0 ?_ (hS:=dV);refine tx 1 ?_ (hS:=dV);refine tx 2 ?_ (hS:=dV);refine tx 3 ?_ (hS:=dV);refine tx 4 ?_ (v:= .agg #[.int .i64 x.1,.int .i64 x.2]) (hS:=dV);refine tx 5 ?_ (hS:=dV);obtain⟨W3,hput,mU,hg3,hz3⟩ :=(gW.out.keep (cO.block _ gW.out.lt)).put Tq j4.out x hok HX.out;try refine tn ?_
   refine aF 6 (by kernel_rfl) ?_;refine bI W3 rfl (by kernel_rfl) (afc _ _ _ _ _ _ _ rfl _ _ _ (by kernel_rfl) (by kernel_rfl) (by kernel_rfl) hput) ?_;have hb3:W3.heap[sb]?=some (.cells #[.map (some mb),.slice ad L.length cp] 125) :=(hg3.block sb (aau (Array.getElem?_eq_some_iff.1 hb2).1 cO.size) (fun e=>xQ.out (by simpa using e.symm))).trans (aC hb2 cO);have gJ:W3.heap[n0]?=some (.cells #[.int .i64 x.1,.int .i64 x.2] 66) :=(hg3.block n0 (aau (Array.getElem?_eq_some_iff.1 jw).1 cO.size) (fun e=>Cy.out (by simpa using e.symm))).trans (aC jw cO);refine⟨⟨aj hb3 0,aj gJ 0,aj gJ 1⟩,?_⟩;try refine tn ?_
   refine aaL (by kernel_rfl) ?_ _;have iC:Hid (W3.ownsRow base 66 2 (.slice ad L.length cp) L.length (gV fV L)) :=aG dO.out (fun b hk=>(hg3.block b (aau (Array.getElem?_eq_some_iff.1 (aA dO.out hk).2.choose_spec).1 cO.size) (fun e=>by
    obtain⟨_,cur,h2⟩ :=aA dO.out hk;obtain⟨es,c,h3,_⟩ :=gW.out;have e':b=mb:=by simpa using e
    rw[e',h3]at h2;cases h2)).trans (cO.block b (Array.getElem?_eq_some_iff.1 (aA dO.out hk).2.choose_spec).1));have jJ:Hid (But (bB sb (.map (some mb)) (.slice ad L.length cp)) W W3) :=(kT.out.trans (But.of_below (X:=fun _=>False) cO) (fun _ _ h=>h) (fun _ _ h=>h.elim)).grown hg3 (fun k hk=>by
    have:mb=k:=by simpa using hk
    subst this;exact wP.out);have qP:base≤W3.heap.size:=by rw[hz3];exact aaK hcap2 cO.size
   have uu:=ah mU;have HB3:=ah hb3;have dR:=ah gJ;have f1:W3.cell? ⟨sb,1,none⟩=some (.slice ad L.length cp) :=aj hb3 1;clear hput mU hg3 hz3 dV cO d0;go_wp2_with fail;refine aax (S:=fun u=>u.cell? ⟨n0,0,none⟩=some (.int .i64 x.1)∧u.cell? ⟨n0,1,none⟩=some (.int .i64 x.2)) (by kernel_rfl) ?_;have fI:(fun u=>u.cell? ⟨n0,0,none⟩=some (.int .i64 x.1)∧u.cell? ⟨n0,1,none⟩=some (.int .i64 x.2)) ({heap:=W3.heap,tape:=W3.tape,drawn:=W3.drawn+1,os:=W3.os,output:=W3.output} :aaa) :=⟨aj gJ 0,aj gJ 1⟩;have bT:aal W3.heap.size W3 ({heap:=W3.heap,tape:=W3.tape,drawn:=W3.drawn+1,os:=W3.os,output:=W3.output} :aaa) :=(aas _ _).drew;generalize({heap:=W3.heap,tape:=W3.tape,drawn:=W3.drawn+1,os:=W3.os,output:=W3.output} :aaa)=We at*;have hb4:We.heap[sb]?=some (.cells #[.map (some mb),.slice ad L.length cp] 125) :=aC HB3.out bT
   try refine tn ?_
   refine tx 0 ?_ (hS:=fI);refine tx 1 ?_ (hS:=fI);refine tx 2 ?_ (hS:=fI);refine tx 3 ?_ (hS:=fI);refine tx 5 ?_ (v:= .agg #[.int .i64 x.1,.int .i64 x.2]) (hS:=fI);have lY:(fun u=>u.cell? ⟨n0,0,none⟩=some (.int .i64 x.1)∧u.cell? ⟨n0,1,none⟩=some (.int .i64 x.2)) (We.alloc (.cells #[.int .i64 x.1,.int .i64 x.2] 66)) :=⟨(aj ((aaE We (.cells #[.int .i64 x.1,.int .i64 x.2] 66) n0 (aau (Array.getElem?_eq_some_iff.1 dR.out).1 bT.size)).trans (aC dR.out bT)) 0),(aj ((aaE We (.cells #[.int .i64 x.1,.int .i64 x.2] 66) n0 (aau (Array.getElem?_eq_some_iff.1 dR.out).1 bT.size)).trans (aC dR.out bT)) 1)⟩;have dD:(We.alloc (.cells #[.int .i64 x.1,.int .i64 x.2] 66)).heap[sb]?=some (.cells #[.map (some mb),.slice ad L.length cp] 125) :=(aaE _ _ _ (Array.getElem?_eq_some_iff.1 hb4).1).trans hb4
   refine bX 4 6 (by kernel_rfl) ?Us ?UX;case' Us=>
    refine aP _ _ rfl (by kernel_rfl) (Gt _ _ _ _ rfl sb 1 L.length cp ad (by kernel_rfl) (aj hb4 1)) ?_;refine⟨fI,?_⟩;try refine tn ?_
    refine aF 6 (by kernel_rfl) ?_;refine aP _ _ rfl (by kernel_rfl) (Gr _ _ _ _ rfl x (by kernel_rfl)) ?_;refine⟨lY,?_⟩;try refine tn ?_
   case' UX=>
    refine aP _ _ rfl (by kernel_rfl) (Gr _ _ _ _ rfl x (by kernel_rfl)) ?_;refine⟨lY,?_⟩;try refine tn ?_
    refine aF 4 (by kernel_rfl) ?_;refine aP _ _ rfl (by kernel_rfl) (Gt _ _ _ _ rfl sb 1 L.length cp ad (by kernel_rfl) (aj dD 1)) ?_;refine⟨lY,?_⟩;try refine tn ?_
   all_goals
    refine aF 7 (by kernel_rfl) ?_;refine Dl rfl (by kernel_rfl) rfl _ _ rfl i0 hi0 hz0 hz1 hz2 base _ L.length (gV fV L) (by kernel_rfl) (aG iC.out (fun b hk=>bT.block b (Array.getElem?_eq_some_iff.1 (aA iC.out hk).2.choose_spec).1)) x We.heap.size rfl (by kernel_rfl) hb (aaK qP bT.size) ?_;intro g c W4 gY dH fD;have HP:=bA.pushed (K:=fV) (by decide) hb4 (uu.out.keep (bT.block _ uu.out.lt)) mF.out (aG iC.out (fun b hk=>bT.block b (Array.getElem?_eq_some_iff.1 (aA iC.out hk).2.choose_spec).1)) dH gY Cb.out wI.out;have hb5:W4.heap[sb]?=some (.cells #[.map (some mb),.slice ad L.length cp] 125) :=HP.2;have dM:W4.heap[n0]?=some (.cells #[.int .i64 x.1,.int .i64 x.2] 66) :=(dH.block n0 (aau (Array.getElem?_eq_some_iff.1 dR.out).1 bT.size) (fun e=>lT.out n0 (aap (aap e)) rfl)).trans (aC dR.out bT);refine⟨⟨aj dM 0,aj dM 1⟩,?_⟩
    try refine tn ?_
    refine tx 8 ?_ (hS:=⟨aj dM 0,aj dM 1⟩);refine tx 9 ?_ (hS:=⟨aj dM 0,aj dM 1⟩);refine aF 10 (by kernel_rfl) ?_;refine bI _ rfl (by kernel_rfl) (Om _ _ _ _ _ rfl sb 1 g (L.length+1) c _ (by kernel_rfl) (by kernel_rfl) (aj hb5 1) (aa1 _ sb 1 _ _ hb5)) ?_;have nG:(W4.setCell ⟨sb,1,none⟩ (.slice (some ⟨g,0,none⟩) (L.length+1) c)).heap[n0]?=some (.cells #[.int .i64 x.1,.int .i64 x.2] 66) :=(ay W4 sb 1 _ n0 (fun e=>lT.out sb (aar rfl) e.symm)).trans dM;refine⟨⟨aj nG 0,aj nG 1⟩,?_⟩;exact zc4
abbrev kW(a b:Int) :Array aah:=#[.int .i64 a,.int .i64 b]
structure Wu(K:bN (Int×Int))(P:Int×Int→Prop)(S:Nat) :Prop where
 step: ∀x j,P x→j<S→P (K.step x j)
 key: ∀x,P x→fV.ok x
 few: ∀Z:List (Int×Int),Z.Nodup→(∀z∈Z,P z)→Z.length≤1114112
structure Tb(w W:aaa)(cw ca:Array aah)(a0 a1 a2 a3 aV bC vm aI:aah)(Z:List (Int×Int))(bs:List Bool) :Prop where
 wb:W.heap[w.heap.size]?=some (.cells cw 71)
 ab:W.heap[w.heap.size+1]?=some (.cells ca 74)
 rb:W.heap[w.heap.size+2]?=some (.cells #[aJ,aJ,aJ,aJ,aJ,aJ,aJ,aJ] 93)
 tb:W.heap[w.heap.size+3]?=some (.cells #[a0,a1,a2,a3,aV,bC,aJ,aJ] 93)
 set:bA fV W w.heap.size (w.heap.size+4) vm aI Z
 fin:W.ownsRow w.heap.size 4 1 bC bs.length (bs.map abf)
 bel:aal w.heap.size w W
section
variable {w W W1:aaa} {cw ca:Array aah} {a0 a1 a2 a3 aV bC vm aI:aah} {Z:List (Int×Int)} {bs:List Bool}
theorem Tb.keep(h:Tb w W cw ca a0 a1 a2 a3 aV bC vm aI Z bs) {X:Nat→Prop}(hb:But X W W1)(hX: ∀b,X b→w.heap.size≤b∧(∀cs t,W.heap[b]?=some (.cells cs t)→t≠71∧t≠74∧t≠93∧t≠4)∧¬bB (w.heap.size+4) vm aI b) :Tb w W1 cw ca a0 a1 a2 a3 aV bC vm aI Z bs:=by
 have at_: ∀(b:Nat)(cs:Array aah)(t:aaT),(t=71∨t=74∨t=93∨t=4)→W.heap[b]?=some (.cells cs t)→W1.heap[b]?=some (.cells cs t) :=by
  intro b cs t ht hh;rw[hb.block b (Array.getElem?_eq_some_iff.1 hh).1 (fun hx=> ?_)];·exact hh
  ·obtain⟨_,h2,_⟩ :=hX b hx;have:=h2 cs t hh;rcases ht with e|e|e|e;·exact this.1 e
   ·exact this.2.1 e
   ·exact this.2.2.1 e
   ·exact this.2.2.2 e
 refine⟨at_ _ _ _ (aar rfl) h.wb,at_ _ _ _ (aap (aar rfl)) h.ab,at_ _ _ _ (aap (aap (aar rfl))) h.rb,at_ _ _ _ (aap (aap (aar rfl))) h.tb,?_,?_,?_⟩;·exact h.set.but hb (fun b hB hx=>(hX b hx).2.2 hB)
 ·exact ZZ
 ·exact h.bel.trans (hb.below h.bel.size (fun k hk hx=>by have:=(hX k hx).1;omega))
theorem Tb.below(h:Tb w W cw ca a0 a1 a2 a3 aV bC vm aI Z bs)(hb:aal W.heap.size W W1) :Tb w W1 cw ca a0 a1 a2 a3 aV bC vm aI Z bs:=h.keep (X:=fun _=>False) (But.of_below hb) (fun b hx=>hx.elim)
theorem Tb.placed(h:Tb w W cw ca a0 a1 a2 a3 aV bC vm aI Z bs) {dF bG:aah} {Z':List (Int×Int)}(hs':bA fV W1 w.heap.size (w.heap.size+4) dF bG Z')(hb:But (bB (w.heap.size+4) vm aI) W W1) :Tb w W1 cw ca a0 a1 a2 a3 aV bC dF bG Z' bs:=by
 have far: ∀b cs t,bB (w.heap.size+4) vm aI b→W.heap[b]?=some (.cells cs t)→t=125∨t=66:=by
  intro b cs t hB hh;rcases(h.set.blk hB).2 with⟨c,h1⟩| ⟨es,c,h1⟩| ⟨c,h1⟩;·exact abm
  ·rw[hh]at h1;cases h1
  ·rw[hh]at h1;simp only[aa3,Obj.cells.injEq]at h1;exact aap h1.2.1
 have at_: ∀(b:Nat)(cs:Array aah)(t:aaT),t≠125→t≠66→W.heap[b]?=some (.cells cs t)→W1.heap[b]?=some (.cells cs t) :=by
  intro b cs t h1 h2 hh;rw[hb.block b (Array.getElem?_eq_some_iff.1 hh).1 (fun hx=> ?_)];·exact hh
  ·rcases far b cs t hx hh with e|e;·exact h1 e
   ·exact h2 e
 refine⟨at_ _ _ _ (by decide) (by decide) h.wb,at_ _ _ _ (by decide) (by decide) h.ab,at_ _ _ _ (by decide) (by decide) h.rb,at_ _ _ _ (by decide) (by decide) h.tb,hs',?_,?_⟩;·refine aG h.fin (fun b hk=> ?_);obtain⟨_,cur,h2⟩ :=aA h.fin hk;rw[at_ b cur _ (by decide) (by decide) h2,h2]
 ·refine h.bel.trans (hb.below h.bel.size (fun k hk hB=> ?_));rcases h.set.from_ hB with h1|h1<;>omega
theorem Tb.ank(h:Tb w W cw ca a0 a1 a2 a3 aV bC vm aI Z bs)(v':aah) :Tb w (W.setCell ⟨w.heap.size+3,4,none⟩ v') cw ca a0 a1 a2 a3 v' bC vm aI Z bs:=by
 have at_: ∀(b:Nat),b≠w.heap.size+3→(W.setCell ⟨w.heap.size+3,4,none⟩ v').heap[b]?=W.heap[b]?:=fun b hb=>ay _ _ _ _ _ hb;refine⟨(at_ _ (by omega)).trans h.wb,(at_ _ (by omega)).trans h.ab,(at_ _ (by omega)).trans h.rb,?_,?_,?_,h.bel.setCell (by show w.heap.size≤w.heap.size+3;omega) _⟩;·have:=aL h.tb 4 v';simpa using this
 ·refine h.set.keep (fun b hB=>at_ b ?_);rintro rfl;rcases(h.set.blk hB).2 with⟨c,h1⟩| ⟨es,c,h1⟩| ⟨c,h1⟩;·exact aN h.tb h1 (by decide) rfl
  ·rw[h.tb]at h1;cases h1
  ·exact aN h.tb h1 (by decide) rfl
 ·refine aG h.fin (fun b hk=>at_ b ?_);obtain⟨_,cur,h2⟩ :=aA h.fin hk;exact aN h2 h.tb (by decide)
theorem Tb.sH(h:Tb w W cw ca a0 a1 a2 a3 aV bC vm aI Z bs) {v':aah} {b:Bool}(hb:But (fun b=>bC.ownBlock=some b) W W1)(ho:W1.ownsRow w.heap.size 4 1 v' (bs.length+1) (bs.map abf++ [.bool b])) :Tb w (W1.setCell ⟨w.heap.size+3,5,none⟩ v') cw ca a0 a1 a2 a3 aV v' vm aI Z (bs++ [b])∧W1.heap[w.heap.size+3]?=some (.cells #[a0,a1,a2,a3,aV,bC,aJ,aJ] 93) :=by
 have at1: ∀(b:Nat)(cs:Array aah)(t:aaT),t≠4→W.heap[b]?=some (.cells cs t)→W1.heap[b]?=some (.cells cs t) :=by
  intro b cs t ht hh;rw[hb.block b (Array.getElem?_eq_some_iff.1 hh).1 (fun hx=> ?_)];·exact hh
  ·obtain⟨_,cur,h2⟩ :=aA h.fin hx;rw[hh]at h2;simp only[aa3,Obj.cells.injEq]at h2;exact ht h2.2.1
 have htb:=at1 _ _ _ (by decide) h.tb;have at_: ∀(b:Nat),b≠w.heap.size+3→(W1.setCell ⟨w.heap.size+3,5,none⟩ v').heap[b]?=W1.heap[b]?:=fun b hb=>ay _ _ _ _ _ hb;have Am:bA fV W1 w.heap.size (w.heap.size+4) vm aI Z:=h.set.but hb (fun b hB hx=>by
  obtain⟨_,cur,h2⟩ :=aA h.fin hx;rcases(h.set.blk hB).2 with⟨c,h1⟩| ⟨es,c,h1⟩| ⟨c,h1⟩;·exact aN h2 h1 (by decide) rfl
  ·rw[h2]at h1;cases h1
  ·exact aN h2 h1 (by decide) rfl);have tC:aal w.heap.size w W1:=h.bel.trans (hb.below h.bel.size (fun k hk hx=>by have:=(aA h.fin hx).1;omega));refine⟨⟨(at_ _ (by omega)).trans (at1 _ _ _ (by decide) h.wb),(at_ _ (by omega)).trans (at1 _ _ _ (by decide) h.ab),(at_ _ (by omega)).trans (at1 _ _ _ (by decide) h.rb),?_,?_,?_,tC.setCell (by show w.heap.size≤w.heap.size+3;omega) _⟩,htb⟩;·have:=aL htb 5 v';simpa using this
 ·refine Am.keep (fun b hB=>at_ b ?_);rintro rfl;rcases(Am.blk hB).2 with⟨c,h1⟩| ⟨es,c,h1⟩| ⟨c,h1⟩;·exact aN htb h1 (by decide) rfl
  ·rw[htb]at h1;cases h1
  ·exact aN htb h1 (by decide) rfl
 ·rw[List.length_append,List.length_singleton,abl,abk];refine aG ho (fun b hk=>at_ b ?_);obtain⟨_,cur,h2⟩ :=aA ho hk;exact aN h2 htb (by decide)
structure Cn(w W:aaa)(cw ca:Array aah)(a0 a1 a2 a3 aV bC vm aI:aah)(Z:List (Int×Int))(bs:List Bool)(l:List gT)(fb:Nat)(x:Int×Int)(vr:aah)(rs:List (Nat×Nat)) :Prop where
 t:Tb w W cw ca a0 a1 a2 a3 aV bC vm aI Z bs
 c:yB W w.heap.size aV l vr rs
 f:W.heap[fb]?=some (.cells (kW x.1 x.2) 66)
 nf: ∀b,bB (w.heap.size+4) vm aI b→b≠fb
 ge:w.heap.size≤fb
variable {l:List gT} {fb:Nat} {x:Int×Int} {vr:aah} {rs:List (Nat×Nat)}
theorem Cn.below(h:Cn w W cw ca a0 a1 a2 a3 aV bC vm aI Z bs l fb x vr rs)(hb:aal W.heap.size W W1) :Cn w W1 cw ca a0 a1 a2 a3 aV bC vm aI Z bs l fb x vr rs:=⟨h.t.below hb,h.c.congr fun b cs t _ hh=>aC hh hb,aC h.f hb,h.nf,h.ge⟩
theorem CP {base sb:Nat} {Z:List (Int×Int)}(h:bA fV W base sb vm aI Z) {b:Nat} {cs:Array aah} {t:aaT}(hB:bB sb vm aI b)(hh:W.heap[b]?=some (.cells cs t)) :t=125∨t=66:=by exact QJ
theorem Cn.placed(h:Cn w W cw ca a0 a1 a2 a3 aV bC vm aI Z bs l fb x vr rs) {dF bG:aah} {Z':List (Int×Int)}(hs':bA fV W1 w.heap.size (w.heap.size+4) dF bG Z')(hb:But (bB (w.heap.size+4) vm aI) W W1)(hat: ∀b,bG.ownBlock=some b→aI.ownBlock=some b∨W.heap.size≤b)(ni: ∀b,dF= .map (some b)→vm= .map (some b)∨W.heap.size≤b) :Cn w W1 cw ca a0 a1 a2 a3 aV bC dF bG Z' bs l fb x vr rs:=by
 have hfl:=(Array.getElem?_eq_some_iff.1 h.f).1;refine⟨h.t.placed hs' hb,h.c.congr fun b cs t ht hh=> ?_,?_,fun b hB=> ?_,h.ge⟩
 ·rw[hb.block b (Array.getElem?_eq_some_iff.1 hh).1 (fun hx=> ?_)];·exact hh
  ·rcases CP h.t.set hx hh with e|e;·rcases ht with e'|e'<;>(rw[e]at e';exact absurd e' (by decide))
   ·rcases ht with e'|e'<;>(rw[e]at e';exact absurd e' (by decide))
 ·rw[hb.block fb hfl (fun hx=>h.nf fb hx rfl)];exact h.f
 ·rcases hB with e|e|e;·exact h.nf b (aar e)
  ·rcases ni b e with h1|h1;·exact h.nf b (aap (aar h1))
   ·omega
  ·rcases hat b e with h1|h1;·exact h.nf b (aap (aap h1))
   ·omega
theorem Cn.push(h:Cn w W cw ca a0 a1 a2 a3 aV bC vm aI Z bs l fb x vr rs) {xB:aah} {p:Nat×Nat}(hb:But (fun b=>vr.ownBlock=some b) W W1)(ho:W1.ownsRow w.heap.size 129 2 xB (rs.length+1) (strCells rs++ [.int .i64 (p.1:Int),.int .i64 (p.2:Int)]))(hat: ∀b,xB.ownBlock=some b→vr.ownBlock=some b∨W.heap.size≤b) :Cn w W1 cw ca a0 a1 a2 a3 aV bC vm aI Z bs l fb x xB (rs++ [p]) :=by
 refine⟨h.t.keep hb (fun b hx=> ?_),h.c.push hb ho hat,?_,h.nf,h.ge⟩
 ·obtain⟨h1,cur,h2⟩ :=aA h.c.cur hx;refine⟨h1,fun cs t hh=> ?_,fun hB=> ?_⟩;·exact abj
  ·rcases CP h.t.set hB h2 with e|e<;>exact absurd e (by decide)
 ·rw[hb.block fb (Array.getElem?_eq_some_iff.1 h.f).1 (fun hx=>by obtain⟨_,cur,h2⟩ :=aA h.c.cur hx;exact aN h.f h2 (by decide) rfl)];exact h.f
end
theorem aiX(w:aaa)(y z:Int×Int) :(binOp BinOp.eql 66 (.agg (kW y.1 y.2)) (.agg (kW z.1 z.2))).run Tryd.prog w= .ok (.bool (decide (y=z))) w:=by
 obtain⟨a,b⟩ :=y;obtain⟨a',b'⟩ :=z;have e:decide ((a,b)=(a',b'))=(decide (a=a') &&decide (b=b')) :=by rw[Bool.eq_iff_iff];simp
 rw[e];go_simp;by_cases h1:a=a'
 ·subst h1;by_cases h2:b=b';·subst h2;simp
  ·simp[h2]
 ·simp[h1]
theorem Ph(L:List (Int×Int)) : ∀(i j:Nat)(x:Int×Int),L[i]?=some x→j<2→(gV fV L)[i*2+j]?=(kW x.1 x.2)[j]?:=by
 induction L with
 |nil=>intro i j x h;simp at h
 |cons a L ih=>
  intro i j x h hj;have e:gV fV (a::L)= [.int .i64 a.1,.int .i64 a.2]++gV fV L:=rfl;rw[e];match i,h with
  |0,h=>simp at h;subst h;rw[Nat.zero_mul,Nat.zero_add,List.getElem?_append_left (by simpa using hj)];simp[kW]
  |i+1,h=>rw[List.getElem?_append_right (by simp;omega)];have:=ih i j x (by simpa using h) hj;rw[←this];congr 1;simp;omega
theorem Ld {W:aaa} {base sb:Nat} {vm aI:aah} {Z:List (Int×Int)}(h:bA fV W base sb vm aI Z) {i:Nat} {x:Int×Int}(hi:Z[i]?=some x) : ∃g cap,aI= .slice (some ⟨g,0,none⟩) Z.length cap∧W.cell? ⟨g,i*2,none⟩=some (.int .i64 x.1)∧W.cell? ⟨g,i*2+1,none⟩=some (.int .i64 x.2) :=by
 have hlt:=(List.getElem?_eq_some_iff.1 hi).1;have hr:W.ownsRow base 66 2 aI Z.length (gV fV Z) :=h.row;obtain⟨g,cap,rfl⟩ :=dA hr (by omega);refine⟨g,cap,rfl,aQ hr ?_,aQ hr ?_⟩;·have:=Ph Z i 0 x hi (by omega);simpa using this
 ·have:=Ph Z i 1 x hi (by omega);simpa using this
theorem Vs(W:aaa)(ρ:aat→aah)(o:Oper)(x y:aat)(ho:o.op= .indexAddr 123 x y)(g X len c:Nat)(hx:ρ x= .slice (some ⟨g,0,none⟩) len c)(hy:ρ y= .int .i64 (X:Int))(h:X<len) :(aaF ρ o).run Tryd.prog W= .ok (.value (.pointer (some ⟨g,X*2,none⟩))) W:=by exact xV
theorem DK(W:aaa)(a:Act)(o:Oper)(f:FuncId)(x y:aat)(t:aaT)(ho:o.op= .call {callee:= .value x,args:=#[y],argTypes:=#[t]})(p q r u:aah)(hx:a.eval x= .func (.func f) #[] #[p,q,r])(hy:a.eval y=u)(hf:(callFunc f #[u,p,q,r]).run Tryd.prog W= .ok (.enter f #[u,p,q,r]) W) :(aaF a.eval o).run Tryd.prog W= .ok (.enter f #[u,p,q,r]) W:=by unfold aaF;simp[ho,resolve,invoke,Deferred.ofValue,hx,hy,hf]
theorem Tryd.infoBoolN:(Tryd.prog.info? 4).map (fun i=>(i.zero,i.size,i.bytes))=some (some (.bool false),1,1) :=by kernel_rfl
theorem GH {W:aaa} {ops:Array Oper} {i:Nat} {o:Oper} {a:Act} {K:Act→aaa→Prop} {Q:Exit→Act→aaa→Prop}(vP:ops[i]?=some o)(hw:Region.wanted o (yielded ops a.tmps)=true)(hgd:o.guard=none)(s x:aat)(ho:o.op= .call {callee:= .builtin .append,args:=#[s,x],argTypes:=#[57,57]})(i0:TypeInfo)(hi:Tryd.prog.info? 4=some i0)(hz:i0.zero=some (.bool false))(hsize:i0.size=1)(hby:i0.bytes=1)(base:Nat)(v:aah)(n:Nat)(xs:List aah)(hs:a.eval s=v)(hown:W.ownsRow base 4 1 v n xs)(b:Bool)(ad:Nat)(had:ad=W.heap.size)(hx:a.eval x= .slice (some ⟨ad,0,none⟩) 1 1)(hb:(n+1)*1≤140737488355328)(hbase:base≤W.heap.size)(h: ∀g cap w',w'.ownsRow base 4 1 (.slice (some ⟨g,0,none⟩) (n+1) cap) (n+1) (xs++ [.bool b])→But (fun b=>v.ownBlock=some b) W w'→(∀b,(aa' (some ⟨g,0,none⟩) (n+1) cap).ownBlock=some b→v.ownBlock=some b∨W.heap.size≤b)→K (a.put o.dst (.slice (some ⟨g,0,none⟩) (n+1) cap)) w') :wpOp Tryd.prog ops Q i K a (W.alloc (.cells #[.bool b] 4)) :=by refine mo vP hw ?_;have:=lN (ops:=ops) (E:=True) (Q:=Q) hgd s x 57 4 ho i0 (.bool false) 1 1 Tryd.underlying57 hi hz hsize hby rfl (by decide) base v n xs hs hown #[.bool b] rfl (by intro y hy;simp at hy;subst hy;rfl) ad had hx hb (by decide) hbase h;rwa
    [if_pos hw]at this
end Go.Proofs.YtkbjimkngmlfcaaDoor
