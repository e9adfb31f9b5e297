import Derived.Test.YtkbjimkngmlfcaaDoorSetsJ05
namespace Go.Proofs.YtkbjimkngmlfcaaDoor
open Go Go.RowKit
open Go renaming World→aab,Value→aaa,Calls→aaL,info_parts→aa3,TypeId→aaU,Operand→aal,Oper→aar,execOp→aas,wp_region_held→aa8,wpAnyH_take→aaw,wpAnyH_done→aa9,heap_alloc_new→abx
open Go.RowKit renaming Below→aap,intOf→aaE
open Go.RowKit.Below renaming refl→aaA
open Go.Value.slice renaming injEq→aa'
open Go.World renaming ownsRow_lit→abz,ownsRow_nil→abn,setCell→abl,ownsRow→aa4
open List renaming getElem?_eq_getElem→aat,getElem_mem→abf,mem_of_getElem?→aaF,getElem?_append_left→abk,getD_eq_getElem?_getD→aaK,length_take→abt,length_append→aaR,length_singleton→abd,length_set→aa1,getElem?_set_self→acD,replicate→aav,range→abI,ext_getElem→aa7,getElem?_map→aaT,getElem?_range→acE,getElem_set→acA,getElem_map→abw,getElem_range→abu,length_nil→ab',getElem?_eq_none→acH
open Nat renaming le_refl→aax,zero_le→aa5,le_trans→aaY,lt_of_lt_of_le→abp
open Option.some renaming inj→abE,injEq→abC
open Or renaming inl→aau,inr→aaV
set_option linter.unusedVariables false
set_option linter.unusedSimpArgs false
set_option maxRecDepth 100000
set_option maxHeartbeats 8000000
theorem aje {P:Prop}(h:P:=by
 go_wp2_with fail;go_roundw;case rel=>exact⟨t+1,_,_,_,_,_,_,_,_,_,by omega,by go_num,rfl,yT.out,AV.out,anu⟩
 case measure=>simp[intOf];omega) :P:=h
theorem aga {P:Prop}(h:P:=by
 clear fZ hcmp;go_wp2_with fail;go_roundw;case rel=>exact⟨i+1,by go_num,by omega,by rw[N9.out],kS.out,Im.out⟩
 case measure=>simp[intOf];omega) :P:=h
theorem afT {P:Prop}(h:P:=by refine aG h.tab.fin (fun b hkb=> ?_);obtain⟨_,gH,h2⟩ :=aA h.tab.fin hkb;rw[hot b gH _ (by decide) h2,h2]) :P:=h
structure mX(Ks:List Int)(G:List jE)(kinds:List jE) :Prop where
 len:Ks.length=kinds.length
 at_: ∀(j:Nat)(a:Int),Ks[j]?=some a→jR G a∧kinds[j]?=some (mean G a)
theorem mX.app {Ks:List Int} {G r:List jE} {kinds:List jE}(h:mX Ks G kinds) :mX Ks (G++r) kinds:=⟨h.len,fun j a hj=>⟨(h.at_ j a hj).1.app,by rw[Eb (h.at_ j a hj).1];exact(h.at_ j a hj).2⟩⟩
theorem mX.step {Ks:List Int} {Tr:List (Int×Nat×Nat)} {G:List jE} {kinds:List jE}(h:mX Ks G kinds)(hT:jB Tr G)(hnd:kinds.Nodup)(hkn:Ks.Nodup) {a:Int}(ha:jR G a) :mX (meet Ks a) G (meet kinds (mean G a))∧ix (meet Ks a) a=ix (meet kinds (mean G a)) (mean G a)∧(mean G a∈kinds↔a∈Ks) :=by
 have hiff:mean G a∈kinds↔a∈Ks:=by
  constructor
  ·intro hm;have h1:=lK hm;have hlt:ix kinds (mean G a)<Ks.length:=by rw[h.len];exact lM hm
   have h2:=aat hlt;obtain⟨h3,h4⟩ :=h.at_ _ _ h2;rw[h1]at h4;have:=hT.inj ha h3 (abE h4);rw[this];exact abf hlt
  ·intro hm;obtain⟨j,hj⟩ :=List.mem_iff_getElem?.1 hm;exact aaF (h.at_ j a hj).2
 refine⟨?_,?_,hiff⟩
 ·by_cases hm:a∈Ks;·rw[dZ hm,dZ (hiff.2 hm)];exact h
  ·have hm':mean G a∉kinds:=fun hh=>hm (hiff.1 hh);rw[cK hm,cK hm'];refine⟨by simp[h.len],fun j b hj=> ?_⟩;by_cases e:j<Ks.length;·rw[abk e]at hj;rw[abk (by rw[←h.len];exact e)];exact h.at_ j b hj
   ·have:j=Ks.length:=by have:=(List.getElem?_eq_some_iff.1 hj).1;simp at this;omega
    subst this;have e2:b=a:=by simpa using hj.symm
    subst e2;exact⟨ha,by rw[h.len];simp⟩
 ·by_cases hm:a∈Ks;·rw[dZ hm,dZ (hiff.2 hm)];obtain⟨_,h2⟩ :=h.at_ _ _ (lK hm);exact(uP hnd h2).symm
  ·have hm':mean G a∉kinds:=fun hh=>hm (hiff.1 hh);rw[cK hm,cK hm',jr hm,jr hm',h.len]
def L9(W:aab)(g3 sb:Nat)(vm aI:aaa)(gs:List (List Nat))(e:Ending)(W':aab) :Prop:=∃(gp cp:Nat)(us:List aaa),e= .returned (.slice (some ⟨gp,0,none⟩) us.length cp)∧W'.ownsRow W.heap.size 56 1 (.slice (some ⟨gp,0,none⟩) us.length cp) us.length us∧us.length=gs.length∧(∀(j:Nat)(u:aaa)(g:List Nat),us[j]?=some u→gs[j]?=some g→gD W' g3 u (aH g))∧But (bB sb vm aI) W W'
theorem Tryd.infoIntS:(Tryd.prog.info? 56).map (fun i=>(i.zero,i.size,i.bytes))=some (some (.slice none 0 0),1,24) :=by kernel_rfl
theorem Ja {X:Type} [DecidableEq X](M:Nat→X)(ms:List Nat) :(bz M ms).length≤ms.length:=by have:=zh (bz M ms) (ms.map M) (p8 M ms) (fun x hx=>by obtain⟨q,hq,e⟩ :=fH.1 hx;exact List.mem_map.2 ⟨q,hq,e⟩);simpa using this
theorem TU(base tb sb bx:Nat)(a0 a1 a2 a3 aV bC oV dw vm aI:aaa)(l:List gT)(bs:List Bool)(cl:List Int)(q:Nat)(u:aaa)(rs:List (Nat×Nat))(Tr:List (Int×Nat×Nat))(G:List jE)(W:aab)(hbx:W.heap[bx]?=some (.cells #[.pointer (some ⟨tb,0,none⟩)] 130))(hq:q<l.length)(hl:l[q]?=some (u,rs))(hbq:bs.length=l.length)(hcl:cl.length=l.length)(hn:l.length≤1114112)(hrs: ∀s∈rs,s.1≤1048576∧s.2<l.length)(hrl:rs.length≤1001)(hcb: ∀z∈cl,0≤z∧z≤1114112)(hT:mK W base tb a0 a1 a2 a3 aV bC oV dw l bs cl)(hS:bA fT W base sb vm aI Tr)(hTr:jB Tr G)(GG:Tr.length≤1099511627776)(hbase:base≤W.heap.size) :aaL Tryd.prog 75 #[.int .i64 (q:Int),.pointer (some ⟨bx,0,none⟩),.pointer (some ⟨sb,0,none⟩)] W (KH W base sb vm aI Tr G (bs.getD q false,dJ (bn cl) none rs) rs.length) :=by have HC:=ah (MP base tb sb a0 a1 a2 a3 aV bC oV dw vm aI l bs cl q u rs Tr G W hq hl hbq hcl hn hrs hrl hcb hT hS hTr GG hbase);have b0:=aj hbx 0;clear hbx hl hbq hcl hrs hcb hT hS hTr;generalize(bs.getD q false,dJ (bn cl) none rs)=μ at*;go_enter Tryd.func75,Tryd.ntmps75;go_wp2_with fail;refine HC.out.mono ?_;rintro e w1⟨a,Dr,kP,SF,G1,rfl,h1⟩;have H1:=ah h1;clear h1;go_wp2_with fail;go_ret;exact⟨a,Dr,kP,SF,G1,rfl,H1.out⟩
theorem QV(base tb sb bx g3 c3:Nat)(a0 a1 a2 a3 aV bC dw vm aI v:aaa)(l:List gT)(bs:List Bool)(cl:List Int)(ms:List Nat)(M:Nat→jE)(W:aab)(hbx:W.heap[bx]?=some (.cells #[.pointer (some ⟨tb,0,none⟩)] 130))(hbq:bs.length=l.length)(hcl:cl.length=l.length)(hn:l.length≤1114112)(hrows: ∀s∈l,(∀p∈s.2,p.1≤1048576∧p.2<l.length)∧s.2.length≤1001)(hcb: ∀z∈cl,0≤z∧z≤1114112)(hM: ∀q u rs,l[q]?=some (u,rs)→M q=(bs.getD q false,dJ (bn cl) none rs))(hms: ∀q∈ms,q<l.length)(hml:ms.length≤1114112)(hm0:ms≠ [])(hnl:ms.Nodup)(hT:mK W base tb a0 a1 a2 a3 aV bC (.slice (some ⟨g3,0,none⟩) cl.length c3) dw l bs cl)(hS:bA fT W base sb vm aI [])(hbase:base≤W.heap.size)(hv:gD W g3 v (aH ms)) :aaL Tryd.prog 74 #[v,.func (.func 75) #[] #[.pointer (some ⟨bx,0,none⟩),.pointer (some ⟨sb,0,none⟩)]] W (L9 W g3 sb vm aI (groups M ms)) :=by
 obtain⟨i0,hi,hz0,hz1,hz2⟩ :=aa3 Tryd.infoIntL;obtain⟨is,his,hs0,hs1,hs2⟩ :=aa3 Tryd.infoIntS;have HV:=ah hv;have hg3:g3<W.heap.size:=(Array.getElem?_eq_some_iff.1 (aA hT.cls (b:=g3) rfl).2.choose_spec).1;obtain⟨gv,ov,cv,asA,rfl,hv1,hv2,hv3⟩ :=hv;rw[aK]at*;by_cases h1:ms.length=1
 ·obtain⟨q,rfl⟩ : ∃q,ms= [q] :=by
   match ms,h1 with
   | [q],_=>exact⟨q,rfl⟩
  have HG:=ah (Q7 M q);have HW:=ah ((aaA W.heap.size W).alloc (aax _) (.cells #[.slice (some ⟨gv,ov,none⟩) 1 cv] 56));have hl1:((1:Int)==1)=true:=rfl;clear hv1 hv2 hv3 h1;go_enter Tryd.func74,Tryd.ntmps74;go_wp2_with fail;go_ret;refine⟨W.heap.size,1,[.slice (some ⟨gv,ov,none⟩) 1 cv],rfl,?_,by rw[HG.out];rfl,fun j u g hj hg=> ?_,But.of_below HW.out⟩;·have:=abz (base:=W.heap.size) (e:=56) (size:=1) W #[.slice (some ⟨gv,ov,none⟩) 1 cv] 1 (aax _) (by unfold maxLen;omega) (by simp);simpa using this
  ·rw[HG.out]at hg;have hj0:j=0:=by have:=(List.getElem?_eq_some_iff.1 hj).1;simp at this;omega
   subst hj0;cases hj;cases hg;exact HV.out.below HW.out
 ·have hlm:((ms.length:Int)==1)=false:=by rw[beq_eq_false_iff_ne];omega
  have hm2:ms.length≠1:=h1;have jc:Hid (Pd W (W.alloc (.cells #[.map none,aJ] 142)) base W.heap.size sb (.map none) aJ aJ [] [] [] vm aI vm aI [] []) :=by
   have hb:aap W.heap.size W (W.alloc (.cells #[.map none,aJ] 142)) :=(aaA _ _).alloc (aax _) _;refine⟨qz W _,aax _,abn _ _ _ _,⟨fun a=>if a=0 then some (aJ,[])else none,⟨fun a u zs ha=> ?_,fun a b u zs x ys hab ha hb'=> ?_⟩,rfl,fun j u g hj=>by simp at hj⟩,rfl,hS.below hb,jB.nil,fun b hB hB'=> ?_,But.of_below hb,fun b hB=>aau hB⟩
   ·split at ha;·cases ha;exact abn _ _ _ _
    ·cases ha
   ·split at ha;·cases ha;exact aau rfl
    ·cases ha
   ·have h5:=(hS.blk hB').1;rcases hB with e|e|e;·omega
    ·cases e
    ·cases e
  have Iq:Hid (mX [] [] (bz M (ms.take 0))) :=⟨rfl,fun j a h=>by simp at h⟩;have HT:=ah hT;have HS:=ah hS;have HRW:=ah hrows;have HCB:=ah hcb;have HM:=ah hM;have DW:=ah hms;have uN:=ah hbx;clear hT hS hrows hcb hM hms hbx hv1 hv2 hv3 h1;go_enter Tryd.func74,Tryd.ntmps74;go_wp2_with fail;go_loopw [17,6](fun tv pv wx=>∃(t:Nat)(qC vk vp:aaa)(Ks:List Int)(us:List aaa)(dF bG:aaa)(lC:List (Int×Nat×Nat))(G':List jE),t≤ms.length∧tv= .int .i64 (t:Int)∧pv=vp∧Pd W wx base W.heap.size sb qC vk vp Ks us (groups M (ms.take t)) vm aI dF bG lC G'∧mX Ks G' (bz M (ms.take t))∧lC.length≤1001*t)(fun tv _ _=>ms.length-(aaE tv).toNat);case atStart=>exact⟨0,_,_,_,_,_,_,_,_,_,aa5 _,rfl,rfl,jc.out,Iq.out,aax _⟩
  case round=>
   clear jc Iq;obtain⟨t,qC,vk,vp,Ks,us,dF,bG,lC,G',ht,rfl,rfl,hP,hK,GG⟩ :=hrel;have HP:=ah hP;have HK:=ah hK;obtain⟨adp,vH,hvp⟩ :=yZ hP.pr;subst hvp;by_cases hlt:t<ms.length
   ·have hltz:(t:Int)<(ms.length:Int) :=by omega
    obtain⟨q,hq⟩ : ∃q,ms[t]?=some q:=⟨_,aat hlt⟩;have hV:=HV.out.keep hP.but (fun b hB=>aaV fun cur e=>by rcases iB HS.out hB e with e|e<;>exact absurd e (by decide));obtain⟨gv',ov',cv',ard,he,_,_,hV3⟩ :=hV;simp only[aa',abC,Addr.mk.injEq,and_true]at he;obtain⟨⟨rfl,rfl⟩,-,rfl⟩ :=he;have y0:=hV3 t (by rw[aK];exact hlt);rw[iO ms t hlt,show ms.getD t 0=q by rw[aaK,hq];rfl]at y0;clear hV3;have hqm:q∈ms:=aaF hq;have mO:=DW.out q hqm;obtain⟨u,rs,hlq⟩ : ∃u rs,l[q]?=some (u,rs) :=⟨_,_,aat mO⟩;have hrw:=HRW.out _ (aaF hlq);have hMq:=HM.out q u rs hlq;have IW:Hid (ms.take (t+1)=ms.take t++ [q]) :=by show _=_;rw[List.take_succ_eq_append_getElem hlt,(List.getElem?_eq_some_iff.1 hq).2]
    have hTw:=HT.out.aep HS.out hP.but;have afq:wr.heap[bx]?=some (.cells #[.pointer (some ⟨tb,0,none⟩)] 130) :=by rw[hP.but.block bx (Array.getElem?_eq_some_iff.1 uN.out).1 (fun hB=>by rcases iB HS.out hB uN.out with e|e<;>exact absurd e (by decide))];exact uN.out
    have Ow:=ah (TU base tb sb bx a0 a1 a2 a3 aV bC _ dw dF bG l bs cl q u rs lC G' wr afq mO hlq hbq hcl hn hrw.1 hrw.2 HCB.out hTw hP.ts hP.tr (by omega) (aaY hbase hP.but.size));have hrl:=hrw.2;dsimp only at hrl;rw[←hMq]at Ow;clear hMq hTw afq hP hK hrw hlq;go_wp2_with fail;refine Ow.out.mono ?_;rintro e w1⟨a,Dr,kP,SF,G1,rfl,hs1,PN,⟨r,hr⟩,mG,zX,hlen1,xX,EK⟩;have hP1:=HP.out.ajz hs1 PN xX EK;have hK1:mX Ks G1 (bz M (ms.take t)) :=by rw[hr];exact HK.out.app
    have hKl:Ks.length≤t:=by have h5:=Ja M (ms.take t);rw[abt]at h5;rw[hK1.len];omega
    have hst:=hK1.step PN (p8 _ _) hP1.ks.nodup mG;rw[zX]at hst;have hab: -2≤a∧a≤2199023255552:=by have h6:=PN.len;rcases mG with h|h|h<;>omega
    have bY:=ah hP1;have HST:=ah hst;have anu:SF.length≤1001*(t+1) :=by omega
    have AY:=hP1.len;rw[j3]at AY;have Zc:=ah AY;clear hs1 PN hr mG zX hlen1 xX EK hP1 hK1 hst HP HK Ow y0 AY;go_wp2_with fail;refine(uW W.heap.size W.heap.size qC vk Ks a _ ⟨by omega,by omega⟩ (by omega) bY.out.but.size bY.out.ks).mono ?_;rintro e w2⟨rfl,afG,vk2,hs2,Fv,ni,aby⟩;have hP2:=bY.out.place hs2 Fv ni aby;have cZ:=ah hP2;rw[HST.out.2.1];have AV:Hid (mX (meet Ks a) G1 (bz M (ms.take (t+1)))) :=by show mX _ _ _;rw[IW.out,wH];exact HST.out.1
    clear hs2 Fv ni aby hP2 bY;by_cases hm:M q∈bz M (ms.take t)
    ·have hj:ix (meet (bz M (ms.take t)) (M q)) (M q)<us.length:=by rw[dZ hm,Zc.out];exact lM hm
     have HGo:Hid (groups M (ms.take (t+1))=(groups M (ms.take t)).set (ix (meet (bz M (ms.take t)) (M q)) (M q)) (((groups M (ms.take t)).getD (ix (meet (bz M (ms.take t)) (M q)) (M q)) [])++ [q])) :=by show _=_;rw[IW.out,dZ hm];exact Pk (lK hm)
     generalize ix (meet (bz M (ms.take t)) (M q)) (M q)=j0 at*;have hne:((j0:Int)==(us.length:Int))=false:=by rw[beq_eq_false_iff_ne];omega
     have hjz:(j0:Int)<(us.length:Int) :=by omega
     obtain⟨gp,cp,hvp⟩ :=dA cZ.out.pr (by omega);simp only[aa',true_and]at hvp;obtain⟨rfl,rfl⟩ :=hvp;obtain⟨uj,Jc⟩ : ∃uj,us[j0]?=some uj:=⟨_,aat hj⟩;obtain⟨gj,hgj⟩ : ∃gj,(groups M (ms.take t))[j0]?=some gj:=⟨_,aat (by rw[←cZ.out.len];exact hj)⟩;have TI:Hid ((groups M (ms.take t)).getD j0 []=gj) :=by show _=_;rw[aaK,hgj];rfl
     have z0:=aQ cZ.out.pr Jc;obtain⟨R,rV,_,IX⟩ :=cZ.out.rows;have hown:=rV.own _ _ _ (IX j0 uj gj Jc hgj);rw[aK]at hown;obtain⟨auj,cuj,hve⟩ :=yZ hown;subst hve;have zl:=ah hown;have hgl:gj.length≤1114112:=by obtain⟨_,h5,h6⟩ :=lJ hgj;have h7:=zh gj (ms.take t) (h6 (hnl.sublist (List.take_sublist _ _))) (fun x hx=>((h5 x).1 hx).1);rw[abt]at h7;omega
     have hzz:=cZ.out.but.size;have Ur:=ah Jc;have HGJ:=ah hgj;clear rV IX hown Jc hgj;go_wp2_with(at_builtin;refine dm rfl _ _ 56 3 rfl i0 (.int .i64 0) 8 Tryd.underlying56 hi hz0 hz1 hz2 rfl W.heap.size _ _ _ rfl zl.out _ rfl rfl (by omega) (by decide) hzz ?_);intro u4 w4 gY dH fD Bp;obtain⟨g4,c4,rfl⟩ :=nZ gY Bp;have lX:=cZ.out.push rfl Ur.out HGJ.out dH gY fD rfl;have z4:=aQ lX.2 Ur.out;have Tf:=gI lX.2 j0;have yT:Hid (Pd W (w4.setCell ⟨gp,j0,none⟩ (.slice (some ⟨g4,0,none⟩) (gj.length+1) c4)) base W.heap.size sb afG vk2 (.slice (some ⟨gp,0,none⟩) us.length vH) (meet Ks a) (us.set j0 (.slice (some ⟨g4,0,none⟩) (gj.length+1) c4)) (groups M (ms.take (t+1))) vm aI Dr kP SF G1) :=by show Pd _ _ _ _ _ _ _ _ _ _ _ _ _ _ _ _ _;rw[HGo.out,TI.out];exact lX.1
     clear gY dH fD Bp lX z0 zl cZ;exact aje
    ·have hj:ix (meet (bz M (ms.take t)) (M q)) (M q)=us.length:=by rw[cK hm,jr hm,Zc.out]
     rw[hj];have S9:Hid (groups M (ms.take (t+1))=(groups M (ms.take t)++ [[]]).set us.length ([]++ [q])) :=by show _=_;rw[IW.out,Gn hm,Zc.out,←j3];simp
     have heq:((us.length:Int)==(us.length:Int))=true:=by simp
     have DR:us.length≤1114112:=by have h5:=Ja M (ms.take t);rw[abt]at h5;have h6:=Zc.out;omega
     have iC:=ah cZ.out.pr;have hzz:=cZ.out.but.size;clear hj;go_wp2_with(at_builtin;refine dm rfl _ _ 58 56 rfl is (.slice none 0 0) 24 Tryd.underlying58 his hs0 hs1 hs2 rfl W.heap.size _ _ _ rfl iC.out _ rfl rfl (by omega) (by decide) hzz ?_);intro v3 w3 ho3 qc mJ wT;obtain⟨gp,cp,rfl⟩ :=nZ ho3 wT;have hP3:=cZ.out.more qc ho3;have nL:=ah hP3;have Jc:(us++ [aJ])[us.length]?=some aJ:=by simp
     have hgj:(groups M (ms.take t)++ [[]])[us.length]?=some [] :=by rw[cZ.out.len];simp
     have Ur:=ah Jc;have HGJ:=ah hgj;have z0:=aQ (n:=us.length+1) (by have:=hP3.pr;rw[aaR,abd]at this;exact this) Jc;have zl:Hid (w3.ownsRow W.heap.size 3 1 aJ 0 []) :=abn _ _ _ _;have aol:=hP3.but.size;clear ho3 qc mJ wT hP3 Jc hgj iC cZ;go_upto_region 11 with fail;have hjz:(us.length:Int)<(us.length:Int)+1:=by omega
     go_wp2_with(at_builtin;refine dm rfl _ _ 56 3 rfl i0 (.int .i64 0) 8 Tryd.underlying56 hi hz0 hz1 hz2 rfl W.heap.size _ _ _ rfl zl.out _ rfl rfl (by omega) (by decide) aol ?_);intro u4 w4 gY dH fD Bp;obtain⟨g4,c4,rfl⟩ :=nZ gY Bp;have lX:=nL.out.push (gp:=gp) (cp:=cp) (by rw[aaR];rfl) Ur.out HGJ.out dH gY fD rfl;have z4:=aQ (n:=us.length+1) (by have:=lX.2;rw[aaR,abd]at this;exact this) Ur.out;have Tf:w4.frozen? ⟨gp,us.length,none⟩=false:=gI (n:=us.length+1) (by have:=lX.2;rw[aaR,abd]at this;exact this) us.length;have yT:Hid (Pd W (w4.setCell ⟨gp,us.length,none⟩ (.slice (some ⟨g4,0,none⟩) (0+1) c4)) base W.heap.size sb afG vk2 (.slice (some ⟨gp,0,none⟩) (us.length+1) cp) (meet Ks a) ((us++ [aJ]).set us.length (.slice (some ⟨g4,0,none⟩) (0+1) c4)) (groups M (ms.take (t+1))) vm aI Dr kP SF G1) :=by show Pd _ _ _ _ _ _ _ _ _ _ _ _ _ _ _ _ _;rw[S9.out];exact lX.1
     clear gY dH fD Bp lX z0 zl nL;exact aje
   ·have hltz: ¬(t:Int)<(ms.length:Int) :=by omega
    obtain rfl:t=ms.length:=by omega
    rw[List.take_length]at hP;have OZ:0<us.length:=by
     rw[hP.len,j3];cases amP:ms with
     |nil=>exact absurd amP hm0
     |cons q ms'=>have:M q∈bz M (q::ms') :=fH.2 ⟨q,by simp,rfl⟩;exact List.length_pos_of_mem this
    obtain⟨gp,cp,hvp⟩ :=dA hP.pr OZ;simp only[aa',true_and]at hvp;obtain⟨rfl,rfl⟩ :=hvp;have HFin:Hid (L9 W g3 sb vm aI (groups M ms) (.returned (.slice (some ⟨gp,0,none⟩) us.length vH)) wr) :=by refine⟨gp,vH,us,rfl,hP.pr,hP.len,fun j u g hj hg=> ?_,hP.but⟩;obtain⟨R,rV,_,IX⟩ :=hP.rows;refine gD.own (rV.own _ _ _ (IX j u g hj hg)) ?_ hg3;have h5:=(lJ hg).1;intro e;exact h5 (Mr (k:=[]) e)
    clear hP hK HP HK;go_wp2_with fail;go_ret;exact HFin.out
structure Pt(w W:aab)(base tb bx g3 c3:Nat)(a0 a1 a2 a3 aV bC dw:aaa)(l:List gT)(bs:List Bool)(cl:List Int)(us:List aaa)(parts:List (List Nat)) :Prop where
 tab:mK W base tb a0 a1 a2 a3 aV bC (.slice (some ⟨g3,0,none⟩) cl.length c3) dw l bs cl
 pts:W.ownsRow w.heap.size 56 1 dw us.length us
 len:us.length=parts.length
 hold: ∀(j:Nat)(u:aaa)(ms:List Nat),us[j]?=some u→parts[j]?=some ms→gD W g3 u (aH ms)
 bx:W.heap[bx]?=some (.cells #[.pointer (some ⟨tb,0,none⟩)] 130)
 but:But (fun b=>b=tb) w W
 low:base≤w.heap.size
 gg:w.heap.size≤g3
section
variable {w W W1:aab} {base tb bx g3 c3:Nat} {a0 a1 a2 a3 aV bC dw:aaa} {l:List gT} {bs:List Bool} {cl:List Int} {us:List aaa} {parts:List (List Nat)}
theorem Pt.below(h:Pt w W base tb bx g3 c3 a0 a1 a2 a3 aV bC dw l bs cl us parts)(hb:aap W.heap.size W W1) :Pt w W1 base tb bx g3 c3 a0 a1 a2 a3 aV bC dw l bs cl us parts:=⟨h.tab.below hb,aG h.pts (fun b hk=>hb.block b (Array.getElem?_eq_some_iff.1 (aA h.pts hk).2.choose_spec).1),h.len,fun j u ms hj hm=>(h.hold j u ms hj hm).below hb,aC h.bx hb,⟨hb.os.trans h.but.os,hb.tape.trans h.but.tape,hb.output.trans h.but.output,aaY h.but.size hb.size,fun b hb' hn=>(hb.block b (abp hb' h.but.size)).trans (h.but.block b hb' hn)⟩,h.low,h.gg⟩
theorem Pt.ac9(h:Pt w W base tb bx g3 c3 a0 a1 a2 a3 aV bC dw l bs cl us parts) {sb:Nat} {vm aI:aaa} {Tr:List (Int×Nat×Nat)}(hs:bA fT W w.heap.size sb vm aI Tr)(hsb:w.heap.size≤sb)(hb:But (bB sb vm aI) W W1) :Pt w W1 base tb bx g3 c3 a0 a1 a2 a3 aV bC dw l bs cl us parts:=by
 have hge: ∀b,bB sb vm aI b→w.heap.size≤b:=fun b hB=>by
  rcases hs.from_ hB with e|e;·rw[e];exact hsb
  ·exact e
 refine⟨h.tab.keep hb (fun b hB cs t hh=> ?_),aG h.pts (fun b hk=> ?_),h.len,fun j u ms hj hm=>(h.hold j u ms hj hm).keep hb (fun b hB=>aaV fun cur e=> ?_),?_,?_,h.low,h.gg⟩;·rcases iB hs hB hh with e|e<;>(rw[e];decide)
 ·obtain⟨_,cur,h2⟩ :=aA h.pts hk;refine hb.block b (Array.getElem?_eq_some_iff.1 h2).1 (fun hB=> ?_);rcases iB hs hB h2 with e|e<;>exact absurd e (by decide)
 ·rcases iB hs hB e with e|e<;>exact absurd e (by decide)
 ·rw[hb.block bx (Array.getElem?_eq_some_iff.1 h.bx).1 (fun hB=>by rcases iB hs hB h.bx with e|e<;>exact absurd e (by decide))];exact h.bx
 ·refine⟨hb.os.trans h.but.os,hb.tape.trans h.but.tape,hb.output.trans h.but.output,aaY h.but.size hb.size,fun b hb' hn=> ?_⟩;rw[hb.block b (abp hb' h.but.size) (fun hB=>by have:=hge b hB;omega),h.but.block b hb' hn]
theorem Pt.acP(h:Pt w W base tb bx g3 c3 a0 a1 a2 a3 aV bC dw l bs cl us parts) {k:Nat}(hk:k<cl.length)(x:Int) :Pt w (W.setCell ⟨g3,k,none⟩ (.int .i64 x)) base tb bx g3 c3 a0 a1 a2 a3 aV bC dw l bs (cl.set k x) us parts:=by
 obtain⟨hg,cur,hgb⟩ :=aA h.tab.cls (b:=g3) rfl;have hot: ∀(b:Nat)(cs:Array aaa)(t:aaU),t≠3→W.heap[b]?=some (.cells cs t)→(W.setCell ⟨g3,k,none⟩ (.int .i64 x)).heap[b]?=some (.cells cs t) :=fun b cs t ht hh=>by rw[ay _ _ _ _ _ (aN hh hgb ht)];exact hh
 refine⟨⟨hot _ _ _ (by decide) h.tab.box |>fun e=>by rw[aa1];exact e,h.tab.rows.congr fun b cs t ht _ hh=>hot b cs t (by rcases ht with e|e<;>(rw[e];decide)) hh,?_,?_⟩,?_,h.len,fun j u ms hj hm=> ?_,hot _ _ _ (by decide) h.bx,?_,h.low,h.gg⟩;·exact afT
 ·rw[aa1];exact sJ h.tab.cls hk x
 ·refine aG h.pts (fun b hkb=> ?_);obtain⟨_,gH,h2⟩ :=aA h.pts hkb;rw[hot b gH _ (by decide) h2,h2]
 ·exact(h.hold j u ms hj hm).keep ((But.refl (fun b=>b=g3) W).set g3 k _ rfl) (fun b hB=>aau hB)
 ·refine⟨h.but.os,h.but.tape,h.but.output,by have:=h.but.size;simpa[abl]using this,fun b hb' hn=> ?_⟩;rw[ay _ _ _ _ _ (by have:=h.gg;omega),h.but.block b hb' hn]
theorem Pt.ab6(h:Pt w W base tb bx g3 c3 a0 a1 a2 a3 aV bC dw l bs cl us parts) {gp cp c:Nat}(hvp:dw= .slice (some ⟨gp,0,none⟩) us.length cp)(hc:c<us.length) {u:aaa} {ms:List Nat}(hu:gD W g3 u (aH ms)) :Pt w (W.setCell ⟨gp,c,none⟩ u) base tb bx g3 c3 a0 a1 a2 a3 aV bC dw l bs cl (us.set c u) (parts.set c ms) :=by
 obtain⟨hg,cur,hgb⟩ :=aA h.pts (b:=gp) (by rw[hvp];rfl);have hot: ∀(b:Nat)(cs:Array aaa)(t:aaU),t≠56→W.heap[b]?=some (.cells cs t)→(W.setCell ⟨gp,c,none⟩ u).heap[b]?=some (.cells cs t) :=fun b cs t ht hh=>by rw[ay _ _ _ _ _ (aN hh hgb ht)];exact hh
 have gU:But (fun b=>b=gp) W (W.setCell ⟨gp,c,none⟩ u) :=(But.refl (fun b=>b=gp) W).set gp c _ rfl;have hkeep: ∀v zs,gD W g3 v zs→gD (W.setCell ⟨gp,c,none⟩ u) g3 v zs:=fun v zs hv=>hv.keep gU (fun b hB=>aaV fun gH e=>by subst hB;exact aN hgb e (by decide) rfl);refine⟨⟨hot _ _ _ (by decide) h.tab.box,h.tab.rows.congr fun b cs t ht _ hh=>hot b cs t (by rcases ht with e|e<;>(rw[e];decide)) hh,?_,?_⟩,?_,by rw[aa1,aa1,h.len],fun j v k hj hk=> ?_,hot _ _ _ (by decide) h.bx,?_,h.low,h.gg⟩;·exact afT
 ·refine aG h.tab.cls (fun b hkb=> ?_);obtain⟨_,gH,h2⟩ :=aA h.tab.cls hkb;rw[hot b gH _ (by decide) h2,h2]
 ·rw[aa1];have Ee:=h.pts;subst hvp;refine⟨by rw[aa1];exact Ee.1,?_⟩;rcases Ee.2 with⟨h',_⟩| ⟨g',c',cur,k1,k2,k3,k4,k5,k6,k7⟩;·simp at h'
  ·simp only[aa',abC,Addr.mk.injEq,and_true,true_and]at k1;obtain⟨rfl,rfl⟩ :=k1;refine aaV ⟨gp,cp,cur.setIfInBounds c u,rfl,k2,aL k3 c _,k4,k5,by simpa using k6,?_⟩;rw[Array.toList_setIfInBounds,List.take_set,k7]
 ·by_cases e:j=c;·subst e;rw[acD hc]at hj;rw[acD (by rw[←h.len];exact hc)]at hk;cases hj;cases hk;exact hkeep _ _ hu
  ·rw[List.getElem?_set_ne (Ne.symm e)]at hj hk;exact hkeep _ _ (h.hold j v k hj hk)
 ·refine⟨h.but.os,h.but.tape,h.but.output,by have:=h.but.size;simpa[abl]using this,fun b hb' hn=> ?_⟩;rw[ay _ _ _ _ _ (by omega),h.but.block b hb' hn]
theorem Pt.Y5(h:Pt w W base tb bx g3 c3 a0 a1 a2 a3 aV bC dw l bs cl us parts) {v' u:aaa} {ms:List Nat}(hu:gD W g3 u (aH ms))(hb:But (fun b=>dw.ownBlock=some b) W W1)(ho:W1.ownsRow w.heap.size 56 1 v' (us.length+1) (us++ [u]))(hnt:w.heap.size≤tb∨tb<w.heap.size) :Pt w (W1.setCell ⟨tb,7,none⟩ v') base tb bx g3 c3 a0 a1 a2 a3 aV bC v' l bs cl (us++ [u]) (parts++ [ms])∧W1.heap[tb]?=some (.cells #[a0,a1,a2,a3,aV,bC,.slice (some ⟨g3,0,none⟩) cl.length c3,dw] 93) :=by
 have yt: ∀(b:Nat)(cs:Array aaa)(t:aaU),t≠56→W.heap[b]?=some (.cells cs t)→W1.heap[b]?=some (.cells cs t) :=fun b cs t ht hh=>by rw[hb.block b (Array.getElem?_eq_some_iff.1 hh).1 (fun hk=>by obtain⟨_,cur,h2⟩ :=aA h.pts hk;exact aN hh h2 ht rfl)];exact hh
 have htb:=yt _ _ _ (by decide) h.tab.box;have hot: ∀(b:Nat)(cs:Array aaa)(t:aaU),t≠93→W1.heap[b]?=some (.cells cs t)→(W1.setCell ⟨tb,7,none⟩ v').heap[b]?=some (.cells cs t) :=fun b cs t ht hh=>by rw[ay _ _ _ _ _ (aN hh htb ht)];exact hh
 have QO: ∀(b:Nat)(cs:Array aaa)(t:aaU),t≠56→t≠93→W.heap[b]?=some (.cells cs t)→(W1.setCell ⟨tb,7,none⟩ v').heap[b]?=some (.cells cs t) :=fun b cs t h1 h2 hh=>hot b cs t h2 (yt b cs t h1 hh);have hkeep: ∀v zs,gD W g3 v zs→gD (W1.setCell ⟨tb,7,none⟩ v') g3 v zs:=fun v zs hv=>by have h1:gD W1 g3 v zs:=hv.keep hb (fun b hk=>aaV fun gH e=>by obtain⟨_,cur,h2⟩ :=aA h.pts hk;exact aN e h2 (by decide) rfl);exact h1.keep ((But.refl (fun b=>b=tb) W1).set tb 7 _ rfl) (fun b hB=>aaV fun gH e=>by subst hB;exact aN htb e (by decide) rfl)
 refine⟨⟨⟨?_,h.tab.rows.congr fun b cs t ht _ hh=>QO b cs t (by rcases ht with e|e<;>(rw[e];decide)) (by rcases ht with e|e<;>(rw[e];decide)) hh,?_,?_⟩,?_,by rw[aaR,aaR,h.len];rfl,fun j v k hj hk=> ?_,QO _ _ _ (by decide) (by decide) h.bx,?_,h.low,h.gg⟩,htb⟩;·have:=aL htb 7 v';simpa using this
 ·refine aG h.tab.fin (fun b hkb=> ?_);obtain⟨_,gH,h2⟩ :=aA h.tab.fin hkb;rw[QO b gH _ (by decide) (by decide) h2,h2]
 ·refine aG h.tab.cls (fun b hkb=> ?_);obtain⟨_,gH,h2⟩ :=aA h.tab.cls hkb;rw[QO b gH _ (by decide) (by decide) h2,h2]
 ·rw[aaR,abd];exact ZX
 ·by_cases e:j<us.length;·rw[abk e]at hj;rw[abk (by rw[←h.len];exact e)]at hk;exact hkeep _ _ (h.hold j v k hj hk)
  ·have hjl:j=us.length:=by have:=(List.getElem?_eq_some_iff.1 hj).1;simp at this;omega
   subst hjl;have e1:v=u:=by simpa using hj.symm
   have e2:k=ms:=by rw[h.len]at hk;simpa using hk.symm
   rw[e1,e2];exact hkeep _ _ hu
 ·refine⟨hb.os.trans h.but.os,hb.tape.trans h.but.tape,hb.output.trans h.but.output,by have:=aaY h.but.size hb.size;simpa[abl]using this,fun b hb' hn=> ?_⟩;rw[ay _ _ _ _ _ hn,hb.block b (abp hb' h.but.size) (fun hk=>by have:=(aA h.pts hk).1;omega),h.but.block b hb' hn]
end
theorem uh(M:Nat)(hM:M≤1099511627776)(W:aab) :(Instr.makeSlice 56 (.int .i64 (M:Int)) (.int .i64 (M:Int))).run Tryd.prog W= .ok (.slice (some ⟨W.heap.size,0,none⟩) M M) (W.alloc (.cells (zI (aav M 0)).toArray 3)) :=by
 obtain⟨i0,hi,hz0,hz1,hz2⟩ :=aa3 Tryd.infoIntL;have:=run_make (P:=Tryd.prog) W 56 3 i0 _ Tryd.underlying56 hi hz0 .i64 .i64 (M:Int) (M:Int) (by omega) (by omega) (by rw[hz2];omega) (by omega);rw[hz1]at this;simp only[Int.toNat_natCast,Nat.mul_one]at this;rw[this];have e:madeCells (Value.int .i64 0).cells M=(zI (aav M 0)).toArray:=by apply Array.ext';rw[show(Value.int .i64 0).cells= #[Value.int .i64 0]from rfl,toList_madeCells_one];simp[zI]
 rw[e]
theorem tY(w:aab)(M base:Nat)(hM:M≤1099511627776)(hb:base≤w.heap.size) :(w.alloc (.cells (zI (aav M 0)).toArray 3)).ownsRow base 3 1 (.slice (some ⟨w.heap.size,0,none⟩) M M) M (zI (aav M 0)) :=by have:=abz (base:=base) (e:=3) (size:=1) w (zI (aav M 0)).toArray M hb (by unfold maxLen;omega) (by simp[zI]);simpa using this
theorem Re(W:aab)(ρ:aal→aaa)(o:aar)(x y:aal)(ho:o.op= .makeSlice 56 x y)(M:Nat)(hM:M≤1099511627776)(hx:ρ x= .int .i64 (M:Int))(hy:ρ y= .int .i64 (M:Int)) :(aas ρ o).run Tryd.prog W= .ok (.value (.slice (some ⟨W.heap.size,0,none⟩) M M)) (W.alloc (.cells (zI (aav M 0)).toArray 3)) :=by have h:=uh M hM W;unfold aas;simp only[ho,hx,hy,h,Sem.run_bind,Sem.run_pure,Result.andThen_ok]
theorem yx(W:aab)(ρ:aal→aaa)(o:aar)(x y:aal)(ho:o.op= .store 56 x y)(b off n c:Nat)(ad:Option Addr)(u:aaa)(hx:ρ x= .pointer (some ⟨b,off,none⟩))(hy:ρ y= .slice ad n c)(hc:W.cell? ⟨b,off,none⟩=some u)(hf:W.frozen? ⟨b,off,none⟩=false) :(aas ρ o).run Tryd.prog W= .ok .skip (W.setCell ⟨b,off,none⟩ (.slice ad n c)) :=by exact yu
theorem MO(W:aab)(ρ:aal→aaa)(o:aar)(x y:aal)(ho:o.op= .store 58 x y)(b off n c:Nat)(ad:Option Addr)(u:aaa)(hx:ρ x= .pointer (some ⟨b,off,none⟩))(hy:ρ y= .slice ad n c)(hc:W.cell? ⟨b,off,none⟩=some u)(hf:W.frozen? ⟨b,off,none⟩=false) :(aas ρ o).run Tryd.prog W= .ok .skip (W.setCell ⟨b,off,none⟩ (.slice ad n c)) :=by exact yu
theorem sP(W:aab)(ρ:aal→aaa)(o:aar)(x y:aal)(ho:o.op= .store 3 x y)(b off:Nat)(z:Int)(u:aaa)(hx:ρ x= .pointer (some ⟨b,off,none⟩))(hy:ρ y= .int .i64 z)(hc:W.cell? ⟨b,off,none⟩=some u)(hf:W.frozen? ⟨b,off,none⟩=false) :(aas ρ o).run Tryd.prog W= .ok .skip (W.setCell ⟨b,off,none⟩ (.int .i64 z)) :=by exact yu
theorem FM(W:aab)(ρ:aal→aaa)(o:aar)(x:aal)(ho:o.op= .load 56 x)(b off n c:Nat)(ad:Option Addr)(hx:ρ x= .pointer (some ⟨b,off,none⟩))(h0:W.cell? ⟨b,off,none⟩=some (.slice ad n c)) :(aas ρ o).run Tryd.prog W= .ok (.value (.slice ad n c)) W:=by exact vG
theorem Gq(W:aab)(ρ:aal→aaa)(o:aar)(x:aal)(ho:o.op= .load 58 x)(b off n c:Nat)(ad:Option Addr)(hx:ρ x= .pointer (some ⟨b,off,none⟩))(h0:W.cell? ⟨b,off,none⟩=some (.slice ad n c)) :(aas ρ o).run Tryd.prog W= .ok (.value (.slice ad n c)) W:=by exact vG
theorem Du(W:aab)(ρ:aal→aaa)(o:aar)(y:aal)(ho:o.op= .buildSlice 56 1 #[(0,y)])(z:Int)(hx:ρ y= .int .i64 z) :(aas ρ o).run Tryd.prog W= .ok (.value (.slice (some ⟨W.heap.size,0,none⟩) 1 1)) (W.alloc (.cells #[.int .i64 z] 3)) :=by exact uA
theorem Dn(W:aab)(ρ:aal→aaa)(o:aar)(y:aal)(ho:o.op= .buildSlice 58 1 #[(0,y)])(ad:Option Addr)(n c:Nat)(hx:ρ y= .slice ad n c) :(aas ρ o).run Tryd.prog W= .ok (.value (.slice (some ⟨W.heap.size,0,none⟩) 1 1)) (W.alloc (.cells #[.slice ad n c] 56)) :=by exact uA
theorem xk(W:aab)(ρ:aal→aaa)(o:aar)(x y:aal)(ho:o.op= .indexAddr 58 x y)(g X len c:Nat)(hx:ρ x= .slice (some ⟨g,0,none⟩) len c)(hy:ρ y= .int .i64 (X:Int))(h:X<len) :(aas ρ o).run Tryd.prog W= .ok (.value (.pointer (some ⟨g,X,none⟩))) W:=by exact xV
theorem jD(W:aab)(ρ:aal→aaa)(o:aar)(x y:aal)(ho:o.op= .indexAddr 56 x y)(g X len c:Nat)(hx:ρ x= .slice (some ⟨g,0,none⟩) len c)(hy:ρ y= .int .i64 (X:Int))(h:X<len) :(aas ρ o).run Tryd.prog W= .ok (.value (.pointer (some ⟨g,X,none⟩))) W:=by exact xV
theorem Rz {W:aab} {ops:Array aar} {i:Nat} {o:aar} {a:Act} {K:Act→aab→Prop} {Q:Exit→Act→aab→Prop}(vP:ops[i]?=some o)(hw:Region.wanted o (yielded ops a.tmps)=true)(hgd:o.guard=none)(s x:aal)(ho:o.op= .call {callee:= .builtin .append,args:=#[s,x],argTypes:=#[56,56]})(base:Nat)(v:aaa)(n:Nat)(xs:List aaa)(hs:a.eval s=v)(hown:W.ownsRow base 3 1 v n xs)(z:Int)(ad:Nat)(had:ad=W.heap.size)(hx:a.eval x= .slice (some ⟨ad,0,none⟩) 1 1)(hb:(n+1)*8≤140737488355328)(hbase:base≤W.heap.size)(h: ∀g cap w',w'.ownsRow base 3 1 (.slice (some ⟨g,0,none⟩) (n+1) cap) (n+1) (xs++ [.int .i64 z])→But (fun b=>v.ownBlock=some b) W w'→(∀b,(Value.slice (some ⟨g,0,none⟩) (n+1) cap).ownBlock=some b→v.ownBlock=some b∨W.heap.size≤b)→K (a.put o.dst (.slice (some ⟨g,0,none⟩) (n+1) cap)) w') :wpOp Tryd.prog ops Q i K a (W.alloc (.cells #[.int .i64 z] 3)) :=by obtain⟨i0,hi,hz0,hz1,hz2⟩ :=aa3 Tryd.infoIntL;refine mo vP hw ?_;have:=lN (ops:=ops) (E:=True) (Q:=Q) hgd s x 56 3 ho i0 (.int .i64 0) 1 8 Tryd.underlying56 hi hz0 hz1 hz2 rfl (by decide) base v n xs hs hown #[.int .i64 z] rfl (by intro y hy;simp at hy;subst hy;rfl) ad had hx hb (by decide) hbase h;rwa [if_pos hw]at this
theorem QT {W:aab} {ops:Array aar} {i:Nat} {o:aar} {a:Act} {K:Act→aab→Prop} {Q:Exit→Act→aab→Prop}(vP:ops[i]?=some o)(hw:Region.wanted o (yielded ops a.tmps)=true)(hgd:o.guard=none)(s x:aal)(ho:o.op= .call {callee:= .builtin .append,args:=#[s,x],argTypes:=#[58,58]})(base:Nat)(v:aaa)(n:Nat)(xs:List aaa)(hs:a.eval s=v)(hown:W.ownsRow base 56 1 v n xs)(UY:Option Addr)(m c:Nat)(ad:Nat)(had:ad=W.heap.size)(hx:a.eval x= .slice (some ⟨ad,0,none⟩) 1 1)(hb:(n+1)*24≤140737488355328)(hbase:base≤W.heap.size)(h: ∀g cap w',w'.ownsRow base 56 1 (.slice (some ⟨g,0,none⟩) (n+1) cap) (n+1) (xs++ [.slice UY m c])→But (fun b=>v.ownBlock=some b) W w'→(∀b,(Value.slice (some ⟨g,0,none⟩) (n+1) cap).ownBlock=some b→v.ownBlock=some b∨W.heap.size≤b)→K (a.put o.dst (.slice (some ⟨g,0,none⟩) (n+1) cap)) w') :wpOp Tryd.prog ops Q i K a (W.alloc (.cells #[.slice UY m c] 56)) :=by obtain⟨i0,hi,hz0,hz1,hz2⟩ :=aa3 Tryd.infoIntS;refine mo vP hw ?_;have:=lN (ops:=ops) (E:=True) (Q:=Q) hgd s x 58 56 ho i0 (.slice none 0 0) 1 24 Tryd.underlying58 hi hz0 hz1 hz2 rfl (by decide) base v n xs hs hown #[.slice UY m c] rfl (by intro y hy;simp at hy;subst hy;rfl) ad had hx hb (by decide) hbase h;rwa [if_pos
    hw]at this
def gQ(ks:List Nat)(cs:List Int) :Nat→Nat→Int
 |0,_=>0
 |i+1,c=>gQ ks cs i c+(if ks.getD i 0=c then cs.getD i 0 else 0)
def qi(ks:List Nat)(cs:List Int)(n i:Nat) :List Int:=(abI n).map (gQ ks cs i)
def je(ks:List Nat)(cs:List Int) :Nat→Nat
 |0=>ks.getD 0 0
 |i+1=>if gQ ks cs ks.length (je ks cs i)<gQ ks cs ks.length (ks.getD i 0)then ks.getD i 0 else je ks cs i
theorem KW {ks:List Nat} {cs:List Int}(hB: ∀i,0≤cs.getD i 0∧cs.getD i 0≤1114112)(c:Nat) : ∀i,0≤gQ ks cs i c∧gQ ks cs i c≤(i:Int)*1114112
 |0=>by simp[gQ]
 |i+1=>by have h1:=KW hB (ks:=ks) c i;have h2:=hB i;unfold gQ;split<;>omega
theorem TP(ks:List Nat)(cs:List Int)(n:Nat) :qi ks cs n 0=aav n 0:=by
 apply aa7;·simp[qi]
 ·intro i h1 h2;simp[qi,gQ]
theorem Dg {ks:List Nat} {cs:List Int} {n i c:Nat}(hc:c<n) :(zI (qi ks cs n i))[c]?=some (.int .i64 (gQ ks cs i c)) :=by unfold zI qi;rw[aaT,aaT,acE hc];rfl
theorem Yp {ks:List Nat} {cs:List Int} {n i:Nat} :(qi ks cs n i).set (ks.getD i 0) (gQ ks cs i (ks.getD i 0)+cs.getD i 0)=qi ks cs n (i+1) :=by
 apply aa7;·simp[qi]
 ·intro j h1 h2;rw[acA];simp only[qi,abw,abu,gQ];by_cases e:ks.getD i 0=j;·rw[if_pos e,if_pos e,e]
  ·rw[if_neg e,if_neg e,Int.add_zero]
theorem Ip {ks:List Nat} {cs:List Int}(h0:0<ks.length) : ∀i,i≤ks.length→je ks cs i∈ks
 |0,_=>by unfold je;rw[aaK,aat h0];exact abf h0
 |i+1,h=>by
  unfold je;split;·rw[aaK,aat (show i<ks.length by omega)];exact abf _
  ·exact Ip h0 i (by omega)
theorem TW(W:aab)(ρ:aal→aaa)(o:aar)(x y:aal)(ho:o.op= .indexAddr 56 x y)(g off X len c:Nat)(hx:ρ x= .slice (some ⟨g,off,none⟩) len c)(hy:ρ y= .int .i64 (X:Int))(h:X<len) :(aas ρ o).run Tryd.prog W= .ok (.value (.pointer (some ⟨g,off+X,none⟩))) W:=by exact xV
theorem Q0(W:aab)(ρ:aal→aaa)(o:aar)(x:aal)(ho:o.op= .load 3 x)(b off:Nat)(z:Int)(hx:ρ x= .pointer (some ⟨b,off,none⟩))(h0:W.cell? ⟨b,off,none⟩=some (.int .i64 z)) :(aas ρ o).run Tryd.prog W= .ok (.value (.int .i64 z)) W:=by exact uA
theorem SG(W:aab)(ρ:aal→aaa)(o:aar)(x y:aal)(ho:o.op= .binOp .add 3 x y 3)(p q:Int)(hx:ρ x= .int .i64 p)(hy:ρ y= .int .i64 q)(h0:0≤p+q)(h1:p+q≤9000000000000) :(aas ρ o).run Tryd.prog W= .ok (.value (.int .i64 (p+q))) W:=by unfold aas;have hw:IntKind.i64.wrap (p+q)=p+q:=IntWalk.i64_in _ ⟨by omega,by omega⟩;simp only[ho,hx,hy,Sem.run_bind,Sem.run_pure,Result.andThen_ok];go_simp
theorem Vv(W:aab)(ρ:aal→aaa)(o:aar)(x y:aal)(ho:o.op= .binOp .gtr 3 x y 3)(p q:Int)(hx:ρ x= .int .i64 p)(hy:ρ y= .int .i64 q) :(aas ρ o).run Tryd.prog W= .ok (.value (.bool (decide (q<p)))) W:=by exact BN
theorem Rx(tb pn pc:Nat)(adp:Option Addr)(vk a0 a1 a2 aV bC oV v:aaa)(ks:List Nat)(cs:List Int)(w:aab)(oP:w.heap[tb]?=some (.cells #[a0,a1,a2,vk,aV,bC,oV,.slice adp pn pc] 93))(hv:bD w v (aH ks))(hk:bD w vk cs)(hkl:ks.length≤cs.length)(h0:0<ks.length)(hks:ks.length≤1001)(hB: ∀i,0≤cs.getD i 0∧cs.getD i 0≤1114112)(hlt: ∀c∈ks,c<pn)(hpn:pn≤257) :aaL Tryd.prog 82 #[.pointer (some ⟨tb,0,none⟩),v] w fun e w'=>e= .returned (.int .i64 ((je ks cs ks.length:Nat) :Int))∧aap w.heap.size w w':=by
 obtain⟨ad,cap,rfl,hc⟩ :=hv;obtain⟨g,off,rfl,hg,hcells⟩ :=hc.resolve_left (fun e=>by have:=congrArg List.length e;rw[aK]at this;simp at this;subst this;simp at h0);obtain⟨adk,Ho,rfl,hck⟩ :=hk;obtain⟨gk,qV,rfl,Dy,Oi⟩ :=hck.resolve_left (fun e=>by rw[e,ab']at hkl;omega);rw[aK]at*;have HC:Hid (∀i,i<ks.length→w.cell? ⟨g,off+i,none⟩=some (.int .i64 ((ks.getD i 0:Nat) :Int))) :=fun i hi=>by rw[hcells i hi,iO ks i hi]
 have HK:=ah Oi;have qL:=ah oP;have jX:=ah hB;have IU:Hid (∀i,i<ks.length→ks.getD i 0<pn) :=fun i hi=>by rw[aaK,aat hi];exact hlt _ (abf hi)
 have jF:Hid (∀i,i≤ks.length→je ks cs i<pn) :=fun i hi=>hlt _ (Ip h0 i hi);have b7:=aj oP 7;have hmk:=uh pn (by omega);have HM:Hid ((w.alloc (.cells (zI (aav pn 0)).toArray 3)).ownsRow w.heap.size 3 1 (.slice (some ⟨w.heap.size,0,none⟩) pn pn) pn (zI (qi ks cs pn 0))) :=by show aa4 _ _ _ _ _ _ _;rw[TP];exact tY w pn w.heap.size (by omega) (aax _)
 have mV:Hid (aap w.heap.size w (w.alloc (.cells (zI (aav pn 0)).toArray 3))) :=(aaA _ _).alloc (aax _) _;clear hc hck hcells Oi oP hB hlt;go_enter Tryd.func82,Tryd.ntmps82;go_wp2_with fail;clear hmk b7;generalize w.alloc (.cells (zI (aav pn 0)).toArray 3)=W1 at*;go_loopw [19](fun iv wx=>∃i:Nat,iv= .int .i64 (i:Int)∧i≤ks.length∧wx.ownsRow w.heap.size 3 1 (.slice (some ⟨w.heap.size,0,none⟩) pn pn) pn (zI (qi ks cs pn i))∧aap w.heap.size w wx)(fun iv _=>ks.length-(aaE iv).toNat);case atStart=>exact⟨0,rfl,aa5 _,HM.out,mV.out⟩
 case round=>
  clear HM mV;obtain⟨i,rfl,hi,ho,hb⟩ :=hrel;have HO:=ah ho;have HB:=ah hb;by_cases hil:i<ks.length
  ·have CL:(i:Int)<(ks.length:Int) :=by omega
   have c1:=(hb.cell (p:=⟨g,off+i,none⟩) hg).trans (HC.out i hil);have nQ:=ah (IU.out i hil);have X7:i<cs.length:=by omega
   have c3:wr.cell? ⟨tb,3,none⟩=some (.slice (some ⟨gk,qV,none⟩) cs.length Ho) :=aj ((hb.block tb (Array.getElem?_eq_some_iff.1 qL.out).1).trans qL.out) 3;have c4:=(hb.cell (p:=⟨gk,qV+i,none⟩) Dy).trans (HK.out i X7);have H3:=ah c3;have H4:=ah c4;clear c3 c4 ho hb;obtain⟨k,hkk⟩ : ∃k,k=ks.getD i 0:=⟨_,rfl⟩;rw[←hkk]at c1 nQ;have HKK:=ah hkk;clear hkk;have hkp:=nQ.out;go_upto_region 5 with fail;clear c1;refine aa8 (S:=fun u=>u.cell? ⟨tb,3,none⟩=some (.slice (some ⟨gk,qV,none⟩) cs.length Ho)∧u.cell? ⟨gk,qV+i,none⟩=some (.int .i64 (cs.getD i 0))) (by kernel_rfl) ?_;have hbd:aap wr.heap.size wr ({heap:=wr.heap,tape:=wr.tape,drawn:=wr.drawn+1,os:=wr.os,output:=wr.output} :aab) :=(aaA _ _).drew;generalize({heap:=wr.heap,tape:=wr.tape,drawn:=wr.drawn+1,os:=wr.os,output:=wr.output} :aab)=Wd at*;have hod:Wd.ownsRow w.heap.size 3 1 (.slice (some ⟨w.heap.size,0,none⟩) pn pn) pn (zI (qi ks cs pn i)) :=aG HO.out (fun b hk=>hbd.block b (Array.getElem?_eq_some_iff.1 (aA HO.out hk).2.choose_spec).1)
   have hwz:=HB.out.size;have hSd:(fun u=>u.cell? ⟨tb,3,none⟩=some (.slice (some ⟨gk,qV,none⟩) cs.length Ho)∧u.cell? ⟨gk,qV+i,none⟩=some (.int .i64 (cs.getD i 0))) Wd:=⟨(hbd.cell (p:=⟨tb,3,none⟩) (cell_lt H3.out)).trans H3.out,(hbd.cell (p:=⟨gk,qV+i,none⟩) (cell_lt H4.out)).trans H4.out⟩;have hcb:=KW (ks:=ks) jX.out k i;have hcz:=jX.out i;try refine tn ?_
   refine tx 0 ?_ (hS:=hSd);refine tx 1 ?_ (hS:=hSd);refine aaw (i:=2) (v:= .pointer (some ⟨w.heap.size,k,none⟩)) rfl (by kernel_rfl) (by kernel_rfl) (by kernel_rfl) (fun _ _ _ h=>h) (aau ⟨by kernel_rfl,fun W hW=>jD W _ _ _ _ rfl w.heap.size k pn pn (by kernel_rfl) (by kernel_rfl) hkp⟩) hSd ?_;try refine tn ?_
   refine tx 4 ?_ (hS:=hSd);refine tx 5 ?_ (hS:=hSd);refine tx 6 ?_ (hS:=hSd);refine tx 7 ?_ (hS:=hSd);refine tx 8 ?_ (v:= .slice (some ⟨gk,qV,none⟩) cs.length Ho) (hS:=hSd);refine tx 9 ?_ (hS:=hSd);refine aaw (i:=10) (v:= .pointer (some ⟨gk,qV+i,none⟩)) rfl (by kernel_rfl) (by kernel_rfl) (by kernel_rfl) (fun _ _ _ h=>h) (aau ⟨by kernel_rfl,fun W hW=>TW W _ _ _ _ rfl gk qV i cs.length Ho (by kernel_rfl) (by kernel_rfl) X7⟩) hSd ?_;try refine tn ?_
   refine tx 11 ?_ (v:= .int .i64 (cs.getD i 0)) (hS:=hSd);refine aF 3 (by kernel_rfl) ?_;refine aP _ _ rfl (by kernel_rfl) (Q0 _ _ _ _ rfl w.heap.size k (gQ ks cs i k) (by kernel_rfl) (aQ hod (Dg hkp))) ?_;refine⟨hSd,?_⟩;try refine tn ?_
   refine aaw (i:=12) (v:= .int .i64 (gQ ks cs i k+cs.getD i 0)) rfl (by kernel_rfl) (by kernel_rfl) (by kernel_rfl) (fun _ _ _ h=>h) (aau ⟨by kernel_rfl,fun W hW=>SG W _ _ _ _ rfl _ _ (by kernel_rfl) (by kernel_rfl) (by omega) (by omega)⟩) hSd ?_;try refine tn ?_
   refine aaw (i:=13) (v:= .pointer (some ⟨w.heap.size,k,none⟩)) rfl (by kernel_rfl) (by kernel_rfl) (by kernel_rfl) (fun _ _ _ h=>h) (aau ⟨by kernel_rfl,fun W hW=>jD W _ _ _ _ rfl w.heap.size k pn pn (by kernel_rfl) (by kernel_rfl) hkp⟩) hSd ?_;try refine tn ?_
   refine aF 14 (by kernel_rfl) ?_;refine bI _ rfl (by kernel_rfl) (sP _ _ _ _ _ rfl w.heap.size k (gQ ks cs i k+cs.getD i 0) _ (by kernel_rfl) (by kernel_rfl) (aQ hod (Dg hkp)) (gI hod k)) ?_;have hbS:aap w.heap.size w (Wd.setCell ⟨w.heap.size,k,none⟩ (.int .i64 (gQ ks cs i k+cs.getD i 0))) :=(HB.out.trans (hbd.mono hwz)).trans (((But.refl (fun b=>b=w.heap.size) Wd).set w.heap.size k _ rfl).below (aaY hwz hbd.size) (fun j hj e=>by omega));refine⟨⟨aj ((hbS.block tb (Array.getElem?_eq_some_iff.1 qL.out).1).trans qL.out) 3,(hbS.cell (p:=⟨gk,qV+i,none⟩) Dy).trans (HK.out i X7)⟩,?_⟩;try refine tn ?_
   refine aa9 (by kernel_rfl) ?_ _;have kS:Hid ((Wd.setCell ⟨w.heap.size,k,none⟩ (.int .i64 (gQ ks cs i k+cs.getD i 0))).ownsRow w.heap.size 3 1 (.slice (some ⟨w.heap.size,0,none⟩) pn pn) pn (zI (qi ks cs pn (i+1)))) :=by have h:=sJ hod hkp (gQ ks cs i k+cs.getD i 0);rw[HKK.out]at h⊢;rw[←Yp];exact h
   have Im:=ah hbS;clear hbS hcb hcz hSd hod hbd HO HB;generalize Wd.setCell ⟨w.heap.size,k,none⟩ (.int .i64 (gQ ks cs i k+cs.getD i 0))=W2 at*;go_wp2_with fail;go_roundw;case rel=>exact⟨i+1,by go_num,by omega,kS.out,Im.out⟩
   case measure=>simp[aaE];omega
  ·have CL: ¬(i:Int)<(ks.length:Int) :=by omega
   obtain rfl:i=ks.length:=by omega
   have arX:=jF.out 0 (aa5 _);have c0:=(hb.cell (p:=⟨g,off+0,none⟩) hg).trans (HC.out 0 h0);have anh:Hid (je ks cs 0=ks.getD 0 0) :=rfl;rw[←anh.out]at c0;rw[Nat.add_zero]at c0;have h0z:(0:Int)<(ks.length:Int) :=by omega
   clear ho hb CL hi;go_wp2_with fail;clear c0;go_loopw [8,44](fun bv iv wx=>∃i:Nat,iv= .int .i64 (i:Int)∧i≤ks.length∧bv= .int .i64 ((je ks cs i:Nat) :Int)∧wx.ownsRow w.heap.size 3 1 (.slice (some ⟨w.heap.size,0,none⟩) pn pn) pn (zI (qi ks cs pn ks.length))∧aap w.heap.size w wx)(fun _ iv _=>ks.length-(aaE iv).toNat);case atStart=>exact⟨0,rfl,aa5 _,rfl,HO.out,HB.out⟩
   case round=>
    clear HO HB;obtain⟨i,rfl,hi,rfl,ho,hb⟩ :=hrel;have HO:=ah ho;have HB:=ah hb;clear ho hb;by_cases hil:i<ks.length
    ·have CL:(i:Int)<(ks.length:Int) :=by omega
     have c1:=(HB.out.cell (p:=⟨g,off+i,none⟩) hg).trans (HC.out i hil);have hkp:=IU.out i hil;have hbp:=jF.out i hi;have e1:=ah (aQ HO.out (Dg (ks:=ks) (cs:=cs) (i:=ks.length) hkp));have e2:=ah (aQ HO.out (Dg (ks:=ks) (cs:=cs) (i:=ks.length) hbp));have fZ:Hid (je ks cs (i+1)=if gQ ks cs ks.length (je ks cs i)<gQ ks cs ks.length (ks.getD i 0)then ks.getD i 0 else je ks cs i) :=rfl;generalize je ks cs i=B at*;generalize ks.getD i 0=k at*;generalize gQ ks cs ks.length B=y at*;generalize gQ ks cs ks.length k=x at*;have hkz:(k:Int)<(pn:Int) :=by omega
     have hbz:(B:Int)<(pn:Int) :=by omega
     go_upto_region 11 with fail;clear c1;refine aa8 (S:=fun u=>u.cell? ⟨w.heap.size,k,none⟩=some (.int .i64 x)∧u.cell? ⟨w.heap.size,B,none⟩=some (.int .i64 y)) (by kernel_rfl) ?_;have hbd:aap wr.heap.size wr ({heap:=wr.heap,tape:=wr.tape,drawn:=wr.drawn+1,os:=wr.os,output:=wr.output} :aab) :=(aaA _ _).drew;generalize({heap:=wr.heap,tape:=wr.tape,drawn:=wr.drawn+1,os:=wr.os,output:=wr.output} :aab)=Wd at*;have hod:Wd.ownsRow w.heap.size 3 1 (.slice (some ⟨w.heap.size,0,none⟩) pn pn) pn (zI (qi ks cs pn ks.length)) :=aG HO.out (fun b hk=>hbd.block b (Array.getElem?_eq_some_iff.1 (aA HO.out hk).2.choose_spec).1);have hwz:=HB.out.size;have hSd:(fun u=>u.cell? ⟨w.heap.size,k,none⟩=some (.int .i64 x)∧u.cell? ⟨w.heap.size,B,none⟩=some (.int .i64 y)) Wd:=⟨(hbd.cell (p:=⟨w.heap.size,k,none⟩) (cell_lt e1.out)).trans e1.out,(hbd.cell (p:=⟨w.heap.size,B,none⟩) (cell_lt e2.out)).trans e2.out⟩
     try refine tn ?_
     refine tx 0 ?_ (hS:=hSd);refine tx 1 ?_ (hS:=hSd);refine aaw (i:=2) (v:= .pointer (some ⟨w.heap.size,k,none⟩)) rfl (by kernel_rfl) (by kernel_rfl) (by kernel_rfl) (fun _ _ _ h=>h) (aau ⟨by kernel_rfl,fun W hW=>jD W _ _ _ _ rfl w.heap.size k pn pn (by kernel_rfl) (by kernel_rfl) hkp⟩) hSd ?_;try refine tn ?_
     refine tx 3 ?_ (v:= .int .i64 x) (hS:=hSd);refine tx 4 ?_ (hS:=hSd);refine tx 5 ?_ (hS:=hSd);refine aaw (i:=6) (v:= .pointer (some ⟨w.heap.size,B,none⟩)) rfl (by kernel_rfl) (by kernel_rfl) (by kernel_rfl) (fun _ _ _ h=>h) (aau ⟨by kernel_rfl,fun W hW=>jD W _ _ _ _ rfl w.heap.size B pn pn (by kernel_rfl) (by kernel_rfl) hbp⟩) hSd ?_;try refine tn ?_
     refine tx 7 ?_ (v:= .int .i64 y) (hS:=hSd);refine aaw (i:=8) (v:= .bool (decide (y<x))) rfl (by kernel_rfl) (by kernel_rfl) (by kernel_rfl) (fun _ _ _ h=>h) (aau ⟨by kernel_rfl,fun W hW=>Vv W _ _ _ _ rfl x y (by kernel_rfl) (by kernel_rfl)⟩) hSd ?_;try refine tn ?_
     refine aa9 (by kernel_rfl) ?_ _;have kS:=ah hod;have Im:Hid (aap w.heap.size w Wd) :=HB.out.trans (hbd.mono hwz);clear hod hSd hbd HO HB e1 e2;by_cases hcmp:y<x
     ·have N9:Hid (je ks cs (i+1)=k) :=by show _=_;rw[fZ.out,if_pos hcmp]
      rw[decide_eq_true hcmp];exact aga
     ·have N9:Hid (je ks cs (i+1)=B) :=by show _=_;rw[fZ.out,if_neg hcmp]
      rw[decide_eq_false hcmp];exact aga
    ·have CL: ¬(i:Int)<(ks.length:Int) :=by omega
     obtain rfl:i=ks.length:=by omega
     exact wC
def qo(nx:List Nat)(cl:List Int)(n e:Nat) :List Int:=(abI n).map fun p=>if p<e then cl.getD (nx.getD p 0) 0 else 0
def nT(rs:List (Nat×Nat))(n i:Nat) :Nat:=(rs[i]?.map (·.1)).getD n
theorem XZ(nx:List Nat)(cl:List Int)(n:Nat) :qo nx cl n 0=aav n 0:=by
 apply aa7;·simp[qo]
 ·intro i h1 h2;simp[qo]
theorem ab5 {nx:List Nat} {cl:List Int} {n e:Nat} :(qo nx cl n e).set e (cl.getD (nx.getD e 0) 0)=qo nx cl n (e+1) :=by
 apply aa7;·simp[qo]
 ·intro j h1 h2;rw[acA];simp only[qo,abw,abu];by_cases e1:e=j;·subst e1;rw[if_pos rfl,if_pos (by omega)]
  ·rw[if_neg e1];by_cases e2:j<e;·rw[if_pos e2,if_pos (by omega)]
   ·rw[if_neg e2,if_neg (by omega)]
theorem acn {nx:List Nat} {cl:List Int} :qo nx cl nx.length nx.length=nx.map (fun x=>cl.getD x 0) :=by
 apply aa7;·simp[qo]
 ·intro i h1 h2;have hi:i<nx.length:=by simpa[qo]using h1
  simp only[qo,abw,abu,if_pos hi];rw[aaK (l:=nx),aat hi];rfl
theorem aeG {nx:List Nat} {cl:List Int} {n e p:Nat}(hp:p<n) : ∃z,(zI (qo nx cl n e))[p]?=some (.int .i64 z) :=by unfold zI qo;rw[aaT,aaT,acE hp];exact⟨_,rfl⟩
theorem SI(base tb q g3 c3 S sc:Nat)(FB:Option Addr)(a0 a1 a3 u aV bC dw:aaa)(l:List gT)(bs:List Bool)(cl:List Int)(nx:List Nat)(w:aab)(hT:mK w base tb a0 a1 (.slice FB S sc) a3 aV bC (.slice (some ⟨g3,0,none⟩) cl.length c3) dw l bs cl)(hlq:l[q]?=some (u,runs nx))(hnx:nx.length=S)(hS0:0<S)(hS:S≤1000)(hto: ∀x∈nx,x<cl.length)(hn:l.length≤1114112) :aaL Tryd.prog 81 #[.pointer (some ⟨tb,0,none⟩),.int .i64 (q:Int)] w fun e w'=>∃v,e= .returned v∧w'.ownsRow w.heap.size 3 1 v S (zI (nx.map (fun x=>cl.getD x 0)))∧aap w.heap.size w w':=by
 obtain⟨rs,hrs⟩ : ∃rs,rs=runs nx:=⟨_,rfl⟩;rw[←hrs]at hlq;have mO:q<l.length:=(List.getElem?_eq_some_iff.1 hlq).1;have hqz:(q:Int)<(l.length:Int) :=by omega
 have hnn:nx≠ [] :=fun e=>by rw[e,ab']at hnx;omega
 have hrn:rs≠ [] :=by rw[hrs];exact Dj hnn
 have hrp:0<rs.length:=List.length_pos_iff.2 hrn;have hrow:=hT.rows.each _ (aaF hlq);simp only at hrow;obtain⟨gu,cu,hvu⟩ :=dA hrow hrp;subst hvu;obtain⟨gr,cr,Ik⟩ :=dA hT.rows.row (by omega);subst Ik;have x1:=aQ hT.rows.row (p:=q) (u:= .slice (some ⟨gu,0,none⟩) rs.length cu) (by rw[aaT,hlq];rfl);have b4:=aj hT.box 4;have b2:=aj hT.box 2;have lH:=ah hrow;have HT:=ah hT;have hrl:rs.length≤1000:=by have:=kX nx none 0;rw[hrs];unfold runs;omega
 have mZ:Hid (nT rs S 0=0) :=by obtain⟨v,t,e⟩ :=Su hnn;show _=_;unfold nT;rw[hrs,e];rfl
 have hmk:=uh S (by omega);have HM:Hid ((w.alloc (.cells (zI (aav S 0)).toArray 3)).ownsRow w.heap.size 3 1 (.slice (some ⟨w.heap.size,0,none⟩) S S) S (zI (qo nx cl S (nT rs S 0)))) :=by show aa4 _ _ _ _ _ _ _;rw[mZ.out,XZ];exact tY w S w.heap.size (by omega) (aax _)
 have mV:Hid (aap w.heap.size w (w.alloc (.cells (zI (aav S 0)).toArray 3))) :=(aaA _ _).alloc (aax _) _;have Fy:=ah hrs;have Gw:=ah hto;clear hT hrow hrs hrn hto hnn hlq;go_enter Tryd.func81,Tryd.ntmps81;go_wp2_with fail;clear hmk b4 b2 x1;generalize w.alloc (.cells (zI (aav S 0)).toArray 3)=W1 at*;go_loopw [27](fun iv wx=>∃i:Nat,iv= .int .i64 (i:Int)∧i≤rs.length∧wx.ownsRow w.heap.size 3 1 (.slice (some ⟨w.heap.size,0,none⟩) S S) S (zI (qo nx cl S (nT rs S i)))∧aap w.heap.size w wx)(fun iv _=>rs.length-(aaE iv).toNat);case atStart=>exact⟨0,rfl,aa5 _,HM.out,mV.out⟩
 case round=>
  clear HM mV;obtain⟨i,rfl,hi,ho,hb⟩ :=hrel;have HO:=ah ho;have HB:=ah hb;clear ho hb;by_cases hil:i<rs.length
  ·have CL:(i:Int)<(rs.length:Int) :=by omega
   obtain⟨sx,hsx⟩ : ∃s,rs[i]?=some s:=⟨_,aat hil⟩;have y0:=aQ lH.out (tN rs i sx hsx).1;have y1:=aQ lH.out (tN rs i sx hsx).2;have z0:=(HB.out.cell (cell_lt y0)).trans y0;have z1:=(HB.out.cell (cell_lt y1)).trans y1;have ZI:=ah hsx;clear y0 y1 hsx;go_upto_if 38 with fail;have dD:aap wr.heap.size wr (wr.alloc (.cells #[.int .i64 (sx.1:Int),.int .i64 (sx.2:Int)] 129)) :=(aaA _ _).alloc (aax _) _;have dO:Hid ((wr.alloc (.cells #[.int .i64 (sx.1:Int),.int .i64 (sx.2:Int)] 129)).ownsRow w.heap.size 3 1 (.slice (some ⟨w.heap.size,0,none⟩) S S) S (zI (qo nx cl S (nT rs S i)))) :=aG HO.out (fun b hk=>dD.block b (Array.getElem?_eq_some_iff.1 (aA HO.out hk).2.choose_spec).1);have HB2:Hid (aap w.heap.size w (wr.alloc (.cells #[.int .i64 (sx.1:Int),.int .i64 (sx.2:Int)] 129))) :=HB.out.trans (dD.mono HB.out.size)
   have H8:Hid ((wr.alloc (.cells #[.int .i64 (sx.1:Int),.int .i64 (sx.2:Int)] 129)).heap[wr.heap.size]?=some (.cells #[.int .i64 (sx.1:Int),.int .i64 (sx.2:Int)] 129)) :=abx _ _;clear dD HO HB z0 z1;generalize wr.alloc (.cells #[.int .i64 (sx.1:Int),.int .i64 (sx.2:Int)] 129)=W2 at*;generalize wr.heap.size=b8 at*;have oL:Hid (nT rs S i=sx.1) :=by show _=_;unfold nT;rw[ZI.out];rfl
   have hsv:sx.2∈nx∧sx.1<nx.length:=sj (by rw[←Fy.out];exact aaF ZI.out);have hs1:sx.1<S:=by rw[←hnx];exact hsv.2
   have hs2:sx.2<cl.length:=Gw.out _ hsv.1;clear hsv;obtain⟨E,hE,hE1,hE2,hEr⟩ : ∃E,E=nT rs S (i+1)∧sx.1≤E∧E≤S∧∀p,sx.1≤p→p<E→nx.getD p 0=sx.2:=by
    refine⟨_,rfl,?_,?_,?_⟩
    ·unfold nT;cases e:rs[i+1]? with
     |none=>show sx.1≤S;omega
     |some u=>have:=SN (l:=nx) (by rw[←Fy.out];exact ZI.out) (by rw[←Fy.out];exact e);show sx.1≤u.1;omega
    ·unfold nT;cases e:rs[i+1]? with
     |none=>show S≤S;omega
     |some u=>have:=(sj (l:=nx) (s:=u) (by rw[←Fy.out];exact aaF e)).2;show u.1≤S;omega
    ·intro p h1 h2;have UC:p<nx.length:=by
      unfold nT at h2;cases e:rs[i+1]? with
      |none=>rw[e]at h2;rw[hnx];exact h2
      |some u=>rw[e]at h2;have:=(sj (l:=nx) (s:=u) (by rw[←Fy.out];exact aaF e)).2;have h3:p<u.1:=h2;omega
     have:=abY (l:=nx) (i:=i) (s:=sx) (by rw[←Fy.out];exact ZI.out) h1 (fun u hu=>by rw[←Fy.out]at hu;unfold nT at h2;rw[hu]at h2;exact h2) UC;rw[aaK,this];rfl
   have HE:=ah hE;have HEr:=ah hEr;clear hE hEr;go_cut [9](fun ev wx=>ev= .int .i64 (E:Int)∧wx=W2);case first=>
    by_cases hnext:i+1<rs.length
    ·have hnz:(i:Int)+1<(rs.length:Int) :=by omega
     obtain⟨sy,hsy⟩ : ∃s,rs[i+1]?=some s:=⟨_,aat hnext⟩;have y0:=aQ lH.out (tN rs (i+1) sy hsy).1;have z0:=(HB2.out.cell (cell_lt y0)).trans y0;have HEs:Hid (E=sy.1) :=by show _=_;rw[HE.out];unfold nT;rw[hsy];rfl
     clear y0 hsy;go_wp2_with fail;go_meet;case rel=>exact⟨by rw[HEs.out],rfl⟩
    ·have hnz: ¬(i:Int)+1<(rs.length:Int) :=by omega
     have HEs:Hid (E=S) :=by show _=_;rw[HE.out];unfold nT;rw[acH (by omega)];rfl
     go_wp2_with fail;go_meet;case rel=>exact⟨by rw[HEs.out],rfl⟩
   case rest=>
    obtain⟨rfl,hw2⟩ :=hcut;obtain rfl:=hw2.symm;have z8:=aj H8.out 0;rw[oL.out]at dO;go_wp2_with fail;clear z8;go_loopw [10](fun pv wx=>∃p:Nat,pv= .int .i64 (p:Int)∧sx.1≤p∧p≤E∧wx.ownsRow w.heap.size 3 1 (.slice (some ⟨w.heap.size,0,none⟩) S S) S (zI (qo nx cl S p))∧aap w.heap.size w wx∧wx.heap[b8]?=some (.cells #[.int .i64 (sx.1:Int),.int .i64 (sx.2:Int)] 129))(fun pv _=>S-(aaE pv).toNat);case atStart=>exact⟨sx.1,rfl,aax _,hE1,dO.out,HB2.out,H8.out⟩
    case round=>
     clear dO HB2 H8;obtain⟨p,rfl,hp1,hp2,ho,hb,h8⟩ :=hrel;have HO:=ah ho;have HB:=ah hb;have H8:=ah h8;clear ho hb h8;by_cases hpE:p<E
     ·have hpz:(p:Int)<(E:Int) :=by omega
      have UC:p<S:=by omega
      go_upto_region 12 with fail;refine aa8 (S:=fun u=>u.cell? ⟨tb,6,none⟩=some (.slice (some ⟨g3,0,none⟩) cl.length c3)∧u.cell? ⟨b8,1,none⟩=some (.int .i64 (sx.2:Int))∧u.cell? ⟨g3,sx.2,none⟩=some (.int .i64 (cl.getD sx.2 0))) (by kernel_rfl) ?_;have hbd:aap wr.heap.size wr ({heap:=wr.heap,tape:=wr.tape,drawn:=wr.drawn+1,os:=wr.os,output:=wr.output} :aab) :=(aaA _ _).drew;generalize({heap:=wr.heap,tape:=wr.tape,drawn:=wr.drawn+1,os:=wr.os,output:=wr.output} :aab)=Wd at*;have hod:Wd.ownsRow w.heap.size 3 1 (.slice (some ⟨w.heap.size,0,none⟩) S S) S (zI (qo nx cl S p)) :=aG HO.out (fun b hk=>hbd.block b (Array.getElem?_eq_some_iff.1 (aA HO.out hk).2.choose_spec).1);have hwz:=HB.out.size;have hbw:aap w.heap.size w Wd:=HB.out.trans (hbd.mono hwz);have h8d:=aC H8.out hbd;have y3:=aQ HT.out.cls (p:=sx.2) (u:= .int .i64 (cl.getD sx.2 0)) (by unfold zI;rw[aaT,aat hs2,aaK,aat hs2];rfl)
      have hSd:(fun u=>u.cell? ⟨tb,6,none⟩=some (.slice (some ⟨g3,0,none⟩) cl.length c3)∧u.cell? ⟨b8,1,none⟩=some (.int .i64 (sx.2:Int))∧u.cell? ⟨g3,sx.2,none⟩=some (.int .i64 (cl.getD sx.2 0))) Wd:=⟨aj ((hbw.block tb (Array.getElem?_eq_some_iff.1 HT.out.box).1).trans HT.out.box) 6,aj h8d 1,(hbw.cell (cell_lt y3)).trans y3⟩;try refine tn ?_
      refine tx 0 ?_ (hS:=hSd);refine tx 1 ?_ (hS:=hSd);refine tx 2 ?_ (hS:=hSd);refine tx 3 ?_ (hS:=hSd);refine tx 4 ?_ (hS:=hSd);refine tx 5 ?_ (v:= .slice (some ⟨g3,0,none⟩) cl.length c3) (hS:=hSd);refine tx 6 ?_ (hS:=hSd);refine tx 7 ?_ (v:= .int .i64 (sx.2:Int)) (hS:=hSd);refine aaw (i:=8) (v:= .pointer (some ⟨g3,sx.2,none⟩)) rfl (by kernel_rfl) (by kernel_rfl) (by kernel_rfl) (fun _ _ _ h=>h) (aau ⟨by kernel_rfl,fun W hW=>jD W _ _ _ _ rfl g3 sx.2 cl.length c3 (by kernel_rfl) (by kernel_rfl) hs2⟩) hSd ?_;try refine tn ?_
      refine tx 9 ?_ (v:= .int .i64 (cl.getD sx.2 0)) (hS:=hSd);refine aaw (i:=10) (v:= .pointer (some ⟨w.heap.size,p,none⟩)) rfl (by kernel_rfl) (by kernel_rfl) (by kernel_rfl) (fun _ _ _ h=>h) (aau ⟨by kernel_rfl,fun W hW=>jD W _ _ _ _ rfl w.heap.size p S S (by kernel_rfl) (by kernel_rfl) UC⟩) hSd ?_;obtain⟨zo,hzo⟩ :=aeG (nx:=nx) (cl:=cl) (e:=p) UC;try refine tn ?_
      refine aF 11 (by kernel_rfl) ?_;refine bI _ rfl (by kernel_rfl) (sP _ _ _ _ _ rfl w.heap.size p (cl.getD sx.2 0) _ (by kernel_rfl) (by kernel_rfl) (aQ hod hzo) (gI hod p)) ?_;have hbS:aap w.heap.size w (Wd.setCell ⟨w.heap.size,p,none⟩ (.int .i64 (cl.getD sx.2 0))) :=hbw.trans (((But.refl (fun b=>b=w.heap.size) Wd).set w.heap.size p _ rfl).below (aaY hwz hbd.size) (fun j hj e=>by omega));have h8S:(Wd.setCell ⟨w.heap.size,p,none⟩ (.int .i64 (cl.getD sx.2 0))).heap[b8]?=some (.cells #[.int .i64 (sx.1:Int),.int .i64 (sx.2:Int)] 129) :=by rw[ay _ _ _ _ _ (aN h8d (aA hod (b:=w.heap.size) rfl).2.choose_spec (by decide))];exact h8d
      refine⟨⟨aj ((hbS.block tb (Array.getElem?_eq_some_iff.1 HT.out.box).1).trans HT.out.box) 6,aj h8S 1,(hbS.cell (cell_lt y3)).trans y3⟩,?_⟩;try refine tn ?_
      refine aa9 (by kernel_rfl) ?_ _;have kS:Hid ((Wd.setCell ⟨w.heap.size,p,none⟩ (.int .i64 (cl.getD sx.2 0))).ownsRow w.heap.size 3 1 (.slice (some ⟨w.heap.size,0,none⟩) S S) S (zI (qo nx cl S (p+1)))) :=by have h:=sJ hod UC (cl.getD sx.2 0);have e:=HEr.out p hp1 hpE;show aa4 _ _ _ _ _ _ _;rw[←ab5,e];exact h
      have Im:=ah hbS;have H8n:=ah h8S;clear hbS h8S hSd y3 hod h8d hbw hbd hzo HO HB H8;generalize Wd.setCell ⟨w.heap.size,p,none⟩ (.int .i64 (cl.getD sx.2 0))=W3 at*;go_wp2_with fail;go_roundw;case rel=>exact⟨p+1,by go_num,by omega,by omega,kS.out,Im.out,H8n.out⟩
      case measure=>simp[aaE];omega
     ·have hpz: ¬(p:Int)<(E:Int) :=by omega
      have HOe:Hid (wr.ownsRow w.heap.size 3 1 (.slice (some ⟨w.heap.size,0,none⟩) S S) S (zI (qo nx cl S (nT rs S (i+1))))) :=by
       have e:p=E:=by omega
       show aa4 _ _ _ _ _ _ _;rw[←HE.out,←e];exact HO.out
      go_wp2_with fail;go_roundw;case rel=>exact⟨i+1,by go_num,by omega,HOe.out,HB.out⟩
      case measure=>simp[aaE];omega
  ·have CL: ¬(i:Int)<(rs.length:Int) :=by omega
   have HE:Hid (nT rs S i=S) :=by show _=_;unfold nT;rw[acH (by omega)];rfl
   have HFin:Hid (wr.ownsRow w.heap.size 3 1 (.slice (some ⟨w.heap.size,0,none⟩) S S) S (zI (nx.map (fun x=>cl.getD x 0)))) :=by have h:=HO.out;rw[HE.out]at h;show aa4 _ _ _ _ _ _ _;rw[←acn,hnx];exact h
   go_wp2_with fail;first|go_ret| (trace_state;skip)
   exact⟨_,rfl,HFin.out,HB.out⟩
theorem Nn(W:aab)(ρ:aal→aaa)(o:aar)(x y:aal)(t ty:aaU)(ho:o.op= .binOp .neq t x y ty)(a b:Int)(hx:ρ x= .int .i64 a)(hy:ρ y= .int .i64 b) :(aas ρ o).run Tryd.prog W= .ok (.value (.bool (a !=b))) W:=by unfold aas;simp[ho,hx,hy,eqGuard,binOp,Op.intCmp]
theorem Mm(base tb bx ax g3 c3 a:Nat)(a0 a1 a2 a3 aV bC dw:aaa)(l:List gT)(bs:List Bool)(cl:List Int)(s:Nat×Nat)(w:aab)(hT:mK w base tb a0 a1 a2 a3 aV bC (.slice (some ⟨g3,0,none⟩) cl.length c3) dw l bs cl)(hbx:w.cell? ⟨bx,0,none⟩=some (.pointer (some ⟨tb,0,none⟩)))(hax:w.cell? ⟨ax,0,none⟩=some (.int .i64 (a:Int)))(hs:s.2<cl.length)(ha:a<cl.length) :aaL Tryd.prog 87 #[.agg #[.int .i64 (s.1:Int),.int .i64 (s.2:Int)],.pointer (some ⟨bx,0,none⟩),.pointer (some ⟨ax,0,none⟩)] w fun e w'=>e= .returned (.bool (decide (cl.getD s.2 0≠cl.getD a 0)))∧aap w.heap.size w w':=by
 have hat: ∀k,k<cl.length→w.cell? ⟨g3,k,none⟩=some (.int .i64 (cl.getD k 0)) :=fun k hk=>aQ hT.cls (by unfold zI;rw[aaT,aat hk,aaK,aat hk];rfl);have b6:w.cell? ⟨tb,6,none⟩=some (.slice (some ⟨g3,0,none⟩) cl.length c3) :=aj hT.box 6;have HA:=ah (hat s.2 hs);have HB:=ah (hat a ha);have H6:=ah b6;have HX:=ah hbx;have HY:=ah hax;have dD:aap w.heap.size w (w.alloc (.cells #[.int .i64 (s.1:Int),.int .i64 (s.2:Int)] 129)) :=(aaA _ _).alloc (aax _) _;have J7:=ah dD;have HN:Hid ((w.alloc (.cells #[.int .i64 (s.1:Int),.int .i64 (s.2:Int)] 129)).heap[w.heap.size]?=some (.cells #[.int .i64 (s.1:Int),.int .i64 (s.2:Int)] 129)) :=abx _ _;clear hT hat b6 hbx hax dD;generalize cl.getD s.2 0=x at*;generalize cl.getD a 0=y at*;go_enter Tryd.func87,Tryd.ntmps87
 go_upto_region 1 with fail;generalize w.alloc (.cells #[.int .i64 (s.1:Int),.int .i64 (s.2:Int)] 129)=W1 at*;refine aa8 (S:=fun u=>u.cell? ⟨bx,0,none⟩=some (.pointer (some ⟨tb,0,none⟩))∧u.cell? ⟨ax,0,none⟩=some (.int .i64 (a:Int))∧u.cell? ⟨tb,6,none⟩=some (.slice (some ⟨g3,0,none⟩) cl.length c3)∧u.cell? ⟨w.heap.size,1,none⟩=some (.int .i64 (s.2:Int))∧u.cell? ⟨g3,s.2,none⟩=some (.int .i64 x)∧u.cell? ⟨g3,a,none⟩=some (.int .i64 y)) (by kernel_rfl) ?_;have hbd:aap W1.heap.size W1 ({heap:=W1.heap,tape:=W1.tape,drawn:=W1.drawn+1,os:=W1.os,output:=W1.output} :aab) :=(aaA _ _).drew;generalize({heap:=W1.heap,tape:=W1.tape,drawn:=W1.drawn+1,os:=W1.os,output:=W1.output} :aab)=Wd at*;have hwz:=J7.out.size;have hbw:aap w.heap.size w Wd:=J7.out.trans (hbd.mono hwz);have hSd:(fun u=>u.cell? ⟨bx,0,none⟩=some (.pointer (some ⟨tb,0,none⟩))∧u.cell? ⟨ax,0,none⟩=some (.int .i64 (a:Int))∧u.cell? ⟨tb,6,none⟩=some (.slice (some ⟨g3,0,none⟩) cl.length c3)∧u.cell? ⟨w.heap.size,1,none⟩=some (.int .i64 (s.2:Int))∧u.cell? ⟨g3,s.2,none⟩=some (.int .i64 x)∧u.cell? ⟨g3,a,none⟩=some (.int .i64 y)) Wd:=⟨(hbw.cell (cell_lt HX.out)).trans HX.out,(hbw.cell (cell_lt HY.out)).trans HY.out,(hbw.cell
    (cell_lt H6.out)).trans H6.out,aj (aC HN.out hbd) 1,(hbw.cell (cell_lt HA.out)).trans HA.out,(hbw.cell (cell_lt HB.out)).trans HB.out⟩;try refine tn ?_
 refine tx 0 ?_ (v:= .pointer (some ⟨tb,0,none⟩)) (hS:=hSd);refine tx 1 ?_ (hS:=hSd);refine tx 2 ?_ (hS:=hSd);refine tx 3 ?_ (v:= .slice (some ⟨g3,0,none⟩) cl.length c3) (hS:=hSd);refine tx 4 ?_ (hS:=hSd);refine tx 5 ?_ (v:= .int .i64 (s.2:Int)) (hS:=hSd);refine aaw (i:=6) (v:= .pointer (some ⟨g3,s.2,none⟩)) rfl (by kernel_rfl) (by kernel_rfl) (by kernel_rfl) (fun _ _ _ h=>h) (aau ⟨by kernel_rfl,fun W hW=>jD W _ _ _ _ rfl g3 s.2 cl.length c3 (by kernel_rfl) (by kernel_rfl) hs⟩) hSd ?_;try refine tn ?_
 refine tx 7 ?_ (v:= .int .i64 x) (hS:=hSd);refine tx 8 ?_ (v:= .pointer (some ⟨tb,0,none⟩)) (hS:=hSd);refine tx 9 ?_ (hS:=hSd);refine tx 10 ?_ (hS:=hSd);refine tx 11 ?_ (v:= .slice (some ⟨g3,0,none⟩) cl.length c3) (hS:=hSd);refine tx 12 ?_ (v:= .int .i64 (a:Int)) (hS:=hSd);refine aaw (i:=13) (v:= .pointer (some ⟨g3,a,none⟩)) rfl (by kernel_rfl) (by kernel_rfl) (by kernel_rfl) (fun _ _ _ h=>h) (aau ⟨by kernel_rfl,fun W hW=>jD W _ _ _ _ rfl g3 a cl.length c3 (by kernel_rfl) (by kernel_rfl) ha⟩) hSd ?_;try refine tn ?_
 refine tx 14 ?_ (v:= .int .i64 y) (hS:=hSd);refine aaw (i:=15) rfl (by kernel_rfl) (by kernel_rfl) (by kernel_rfl) (fun _ _ _ h=>h) (aau ⟨by kernel_rfl,fun W hW=>Nn W _ _ _ _ _ _ rfl x y (by kernel_rfl) (by kernel_rfl)⟩) hSd ?_;try refine tn ?_
 refine tx 16 ?_ (hS:=hSd);refine aa9 (by kernel_rfl) ?_ _;clear hSd;go_wp2_with fail;go_ret;refine⟨?_,hbw⟩;by_cases e:x=y;·simp[e]
 ·simp[e]
def aag(bx ax:Nat)(p:Nat×Nat→Bool)(l:List (Nat×Nat))(wb:aab) :Prop:=∀(W:aab)(s:Nat×Nat),aap wb.heap.size wb W→s∈l→aaL Tryd.prog 87 #[.agg #[.int .i64 (s.1:Int),.int .i64 (s.2:Int)],.pointer (some ⟨bx,0,none⟩),.pointer (some ⟨ax,0,none⟩)] W fun e w'=>e= .returned (.bool (p s))∧aap W.heap.size W w'
theorem KO(bx ax base gu cu:Nat)(p:Nat×Nat→Bool)(l:List (Nat×Nat))(w:aab)(hn:l.length≤1048576)(hrow:w.ownsRow base 129 2 (.slice (some ⟨gu,0,none⟩) l.length cu) l.length (strCells l))(hP:aag bx ax p l w) :aaL Tryd.prog 90 #[.slice (some ⟨gu,0,none⟩) l.length cu,.func (.func 87) #[] #[.pointer (some ⟨bx,0,none⟩),.pointer (some ⟨ax,0,none⟩)]] w fun e w'=>∃z:Int,e= .returned (.int .i64 z)∧(0≤z↔l.any p=true)∧aap w.heap.size w w':=by
 have HS:=ah hrow;have HP:=ah hP;obtain⟨B,hB⟩ : ∃B,l.any p=B:=⟨_,rfl⟩;rw[hB];have HQ:=ah hB;clear hB;clear hrow hP;go_enter Tryd.func90,Tryd.ntmps90;go_wp2_with fail;go_loopw [8](fun i wx=>∃k:Nat,k≤l.length∧i= .int .i64 k∧(∀j s,j<k→l[j]?=some s→p s=false)∧aap w.heap.size w wx)(fun i _=>l.length-(aaE i).toNat);case atStart=>exact⟨0,by omega,rfl,fun j s hj=>absurd hj (by omega),aaA _ _⟩
 case round=>
  obtain⟨k,hk,rfl,hno,hbx⟩ :=hrel;have HN:=ah hno;have HB:=ah hbx;clear hno hbx;by_cases hlt:k<l.length
  ·have hltz:(k:Int)<(l.length:Int) :=by omega
   obtain⟨s,hs⟩ : ∃s,l[k]?=some s:=⟨_,aat hlt⟩;have y0:=aQ HS.out (tN l k s hs).1;have y1:=aQ HS.out (tN l k s hs).2;have z0:=(HB.out.cell (cell_lt y0)).trans y0;have z1:=(HB.out.cell (cell_lt y1)).trans y1;have Gj:=ah (HP.out wr s HB.out (aaF hs));have HF:=ah hs;clear y0 y1 hs;cases hp:p s with
   |false=>
    have yT:Hid (∀j s,j<k+1→l[j]?=some s→p s=false) :=fun j s' hj hs'=>by
     by_cases h:j<k;·exact HN.out j s' h hs'
     ·have:j=k:=by omega
      subst this;rw[HF.out]at hs';obtain rfl:=abE hs';exact hp
    rw[hp]at Gj;clear hp;go_wp2_with(go_at_call 87;refine Gj.out.mono ?_;rintro e w2⟨rfl,hb2⟩);exact ah0
   |true=>
    have HR:Hid (B=true) :=by show _=_;rw[←HQ.out];exact List.any_eq_true.2 ⟨s,aaF HF.out,hp⟩
    rw[hp]at Gj;clear hp;go_wp2_with(go_at_call 87;refine Gj.out.mono ?_;rintro e w2⟨rfl,hb2⟩);go_ret;exact⟨(k:Int),rfl,⟨fun _=>HR.out,fun _=>by omega⟩,HB.out.trans (hb2.mono HB.out.size)⟩
  ·have hltz: ¬(k:Int)<(l.length:Int) :=by omega
   have HR:Hid (¬B=true) :=by intro h;rw[←HQ.out]at h;obtain⟨x,hx,hp⟩ :=List.any_eq_true.1 h;obtain⟨j,hj⟩ :=List.mem_iff_getElem?.1 hx;have:=HN.out j x (by have:=(List.getElem?_eq_some_iff.1 hj).1;omega) hj;rw[hp]at this;cases this
   go_wp2_with fail;go_ret;exact⟨-1,rfl,⟨fun h=>by omega,fun h=>absurd h HR.out⟩,HB.out⟩
theorem F3(bx ax base gu cu:Nat)(p:Nat×Nat→Bool)(l:List (Nat×Nat))(w:aab)(hn:l.length≤1048576)(hrow:w.ownsRow base 129 2 (.slice (some ⟨gu,0,none⟩) l.length cu) l.length (strCells l))(hP:aag bx ax p l w) :aaL Tryd.prog 88 #[.slice (some ⟨gu,0,none⟩) l.length cu,.func (.func 87) #[] #[.pointer (some ⟨bx,0,none⟩),.pointer (some ⟨ax,0,none⟩)]] w fun e w'=>e= .returned (.bool (l.any p))∧aap w.heap.size w w':=by have HI:=ah (KO bx ax base gu cu p l w hn hrow hP);clear hP hrow;go_enter Tryd.func88,Tryd.ntmps88;go_wp2_with fail;refine HI.out.mono ?_;rintro e w3⟨z,rfl,hz,hb3⟩;have HZ:=ah hz;clear hz;go_wp2_with fail;go_ret;refine⟨?_,hb3⟩;show Ending.returned (Value.bool (decide (0≤z)))=_;congr 2;rw[Bool.eq_iff_iff,decide_eq_true_eq];exact HZ.out
end Go.Proofs.YtkbjimkngmlfcaaDoor
