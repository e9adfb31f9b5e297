import Derived.Test.YtkbjimkngmlfcaaDoorSetsJ18
open And renaming intro→aaR
open Go renaming World→aaa,Ending→aa5,Addr→aap,Calls→aau,bodyPost_ret→aaV,results→aaU,Value→aab,Operand→abd,heap_alloc_new→aa8,heap_setCell_same→abz,heap_setCell_other→abn,bytesRow→aal
open Go.Lib renaming byteCells→aaF,size_eq→abl,byteCells_length→ab'
open Go.RowKit renaming Below→aar
open Go.RowKit.Below renaming refl→aaT,heap_alloc→abx
open Go.Value renaming bool→aa1
open Go.World renaming grownBy_alloc→aa9,cell?_of_block→aa',frozen?_of_block→aaY
open Int renaming eq_ofNat_of_zero_le→abw,emod_nonneg→aa3,emod_lt_of_pos→aa4
open List renaming length_append→aaQ,length_map→aaL,getD_eq_getElem?_getD→aaA,getElem?_eq_getElem→aaE,getElem?_map→abI,length_set→abf,length_take→abt,getElem_mem→abu,length_pos_of_mem→abE
open List.Pairwise renaming nil→abk,filter→acA
open Nat renaming le_trans→aas,sub_self→abC,le_refl→aax,zero_le→abp
open Or renaming inr→aat,inl→aav
namespace Go.Proofs.YtkbjimkngmlfcaaDoor
open Go Go.RowKit
set_option linter.unusedVariables false
set_option linter.unusedSimpArgs false
set_option maxRecDepth 100000
set_option maxHeartbeats 4000000
theorem acO {P:Prop}(h:P:=by
 have hmz: ¬(0:Int)<(m:Int) :=by omega
 have hcv:=HB1.out.text m bc hlen;go_wp2;go_ret;unfold rC;exact⟨⟨l.toArray⟩,a1,yf,rfl,by rw[size_mk,Hm.out];omega,by omega,by omega,hd0,hd1,pU.out,xL.out⟩) :P:=h
theorem afX {P:Prop}(h:P:=by go_wp2;go_ret;unfold rC;exact⟨⟨(l++ [u]).toArray⟩,a2,mR,rfl,by rw[size_mk,List.length_append,Hm.out,hlen];exact Nat.le_refl _,by omega,by omega,hd2,hd3,HR.out.1,HR.out.2⟩) :P:=h
theorem aem {P:Prop}(h:P:=by go_wp2_with fail;refine bodyPost_ret (v:= .tuple #[.agg #[.slice none 0 0],.int .i64 1]) (by simp[results,Tryd.results15,go_sem,fB.out]) rfl ?_;exact⟨jF.out,Or.inl ⟨HN.out,rfl⟩⟩) :P:=h
theorem QL {P:Prop}(h:P:=by show _=_;rw[aj (aL cZ.out 0 _) 0];simp) :P:=h
theorem vN: ∀ {D:List aT},(∀s∈D,s.2.1.length≤128)→(bE D).length≤128*D.length
 | [],_=>by simp[bE]
 |s::D,h=>by have h1:=vN (D:=D) fun t ht=>h t (by simp[ht]);have h2:=h s (by simp);have e:bE (s::D)=s.2.1.map Prod.fst++bE D:=rfl;rw[e,aaQ,aaL,List.length_cons];omega
theorem xx {A B:List aT}(hA:bP A)(hB:bP B)(h:qJ (A++B)) :(bE A++bE B).length≤1048576:=by have h1:=vN (D:=A) fun s hs=>(h s (List.mem_append_left _ hs)).2.2;have h2:=vN (D:=B) fun s hs=>(h s (List.mem_append_right _ hs)).2.2;have h3:=hA.2.1;have h4:=hB.2.1;rw[aaQ];omega
theorem jL.few {A B:List aT} {op:Bool→Bool→Bool} {sm:List Int} {S:Nat} {Z:List (Int×Int)} {aB:List (List Nat)} {ak:List Bool}(hA:bP A)(hB:bP B)(h:jL (lV A B op sm) S (0,0) Z.length Z aB ak)(hn:Z.Nodup)(hz: ∀z∈Z,lu A B z) :ak.length≤66049:=by have h1:=xz hn hz;have h2:=Mh hA.2.1 hB.2.1;rw[h.mH];omega
theorem Oj {A B:List aT} {op:Bool→Bool→Bool} {w w1 w2:aaa} {ls:List Int} {ak:List Bool} {aB:List (List Nat)} {e:aa5}(hA:bP A)(hB:bP B)(hP:A.length*B.length≤1024)(hls:kD A B ls)(hl:(aM ak aB).aW (ls.length+1) 0=lQ ls (kr A B op))(hb:aar w.heap.size w w1)(h:UI w1 ls ak aB e w2) :jI A B op w e w2:=by
 obtain⟨L,h1,h2,h3⟩ :=h;rw[hl]at h1;refine⟨hb.trans (h2.mono hb.size),aat (aat ⟨hA,hB,hP,ls,hls,?_⟩)⟩;rcases h3 with⟨h4,rfl⟩| ⟨h4,v,l,rfl,rfl,h5⟩;·exact aav ⟨rfl,fun L' h'=>by rw[Sys.dx.uniq h' h1];exact h4⟩
 ·exact aat ⟨v,l,h1,by rw[aaL]at h4;exact h4,rfl,h5.lower hb.size⟩
theorem Dt(hC:iI)(A B:List aT)(how:Int)(Ev:how=0∨how=1)(ad bd:Option aap)(ca cb:Nat)(w:aaa)(h:mW A B ad bd w) :aau Tryd.prog 15 #[.agg #[.slice ad A.length ca],.agg #[.slice bd B.length cb],.int .i64 how] w (jI A B (wJ how) w) :=by
 have hs:=wF w (.slice ad A.length ca) (.slice bd B.length cb);dsimp only at hs;obtain⟨p0,p1,p2,hb⟩ :=hs;have iY:=ah (h.below hb);have HB1:=ah hb;have jc:=ah p0;have bY:=ah p1;have cZ:=ah p2;have YZ:=ah Ev;clear h hb p0 p1 p2 Ev;obtain⟨m,hm⟩ : ∃m,A.length=m:=⟨_,rfl⟩;obtain⟨n,hn⟩ : ∃n,B.length=n:=⟨_,rfl⟩;have jN:=ah hm;have fG:=ah hn;rw[hm,hn]at jc bY cZ iY HB1;rw[hm,hn];clear hm hn;go_enter Tryd.func15,Tryd.ntmps15;go_upto_region 1 with fail;generalize((w.alloc (.cells #[.slice ad m ca] 25)).alloc (.cells #[.slice bd n cb] 25)).alloc (.cells #[.slice none 0 0] 25)=W1 at*;obtain⟨sz,hsz⟩ : ∃sz,w.heap.size=sz:=⟨_,rfl⟩;have uq:=ah hsz;rw[hsz]at jc bY cZ;simp only[hsz];clear hsz;have q0:W1.cell? ⟨sz,0,none⟩=some (.slice ad m ca) :=aj jc.out 0;have hc1:=Ao ca ad A W1 iY.out.sA iY.out.lA iY.out.ha;rw[jN.out]at hc1;obtain⟨fa,hfa⟩ : ∃fa,sI A=fa:=⟨_,rfl⟩
 rw[hfa]at hc1;have CJ:=ah hfa;clear hfa;go_wp2_with fail;refine hc1.mono ?_;rintro e W2⟨rfl,hb2⟩;have HB2:=ah (HB1.out.trans (hb2.mono HB1.out.size));replace iY:=ah (iY.out.below hb2);replace jc:=ah (aC jc.out hb2);replace bY:=ah (aC bY.out hb2);replace cZ:=ah (aC cZ.out hb2);clear hb2 hc1 q0 HB1;cases fa
 ·have HN:Hid (¬(bP A∧bP B)) :=fun h=>by have:=(jP A (fun s hs=>aas (iY.out.sA s hs) (by decide))).2 h.1;exact Rv
  have q3:=aj cZ.out 0;have f3:=bL cZ.out 0;have fB:Hid ((W2.setCell ⟨sz+1+1,0,none⟩ (.slice none 0 0)).cell? ⟨sz+1+1,0,none⟩=some (.slice none 0 0)) :=by exact QL
  have jF:Hid (aar w.heap.size w (W2.setCell ⟨sz+1+1,0,none⟩ (.slice none 0 0))) :=HB2.out.trans (((But.refl (fun b=>b=sz+1+1) W2).set (sz+1+1) 0 _ rfl).below HB2.out.size (fun j hj e=>by have:=uq.out;omega));exact aem
 have q1:W2.cell? ⟨sz+1,0,none⟩=some (.slice bd n cb) :=aj bY.out 0;have hc1:=Ao cb bd B W2 iY.out.sB iY.out.lB iY.out.hb;rw[fG.out]at hc1;obtain⟨fb,qX⟩ : ∃fb,sI B=fb:=⟨_,rfl⟩;rw[qX]at hc1;have BQ:=ah qX;clear qX;go_wp2_with fail;refine hc1.mono ?_;rintro e W3⟨rfl,hb2⟩;have HB3:=ah (HB2.out.trans (hb2.mono HB2.out.size));replace iY:=ah (iY.out.below hb2);replace jc:=ah (aC jc.out hb2);replace bY:=ah (aC bY.out hb2);replace cZ:=ah (aC cZ.out hb2);clear hb2 hc1 q1 HB2;cases fb
 ·have HN:Hid (¬(bP A∧bP B)) :=fun h=>by have:=(jP B (fun s hs=>aas (iY.out.sB s hs) (by decide))).2 h.2;rw[BQ.out]at this;exact absurd this (by decide)
  have q3:=aj cZ.out 0;have f3:=bL cZ.out 0;have fB:Hid ((W3.setCell ⟨sz+1+1,0,none⟩ (.slice none 0 0)).cell? ⟨sz+1+1,0,none⟩=some (.slice none 0 0)) :=by exact QL
  have jF:Hid (aar w.heap.size w (W3.setCell ⟨sz+1+1,0,none⟩ (.slice none 0 0))) :=HB3.out.trans (((But.refl (fun b=>b=sz+1+1) W3).set (sz+1+1) 0 _ rfl).below HB3.out.size (fun j hj e=>by have:=uq.out;omega));exact aem
 have pE:=(jP A (fun s hs=>aas (iY.out.sA s hs) (by decide))).1 CJ.out;have rU:=(jP B (fun s hs=>aas (iY.out.sB s hs) (by decide))).1 BQ.out;have jm:=ah pE;have nI:=ah rU;obtain⟨P,hP⟩ : ∃P,m*n=P:=⟨_,rfl⟩;have hm2:m≤256:=by rw[←jN.out];exact pE.2.1
 have hn2:n≤256:=by rw[←fG.out];exact rU.2.1
 have hP2:=NL hP hm2 hn2;have hwr:=U7 hP hP2;have HP:=ah hP;clear hP pE rU;have q0:W3.cell? ⟨sz,0,none⟩=some (.slice ad m ca) :=aj jc.out 0;have q1:W3.cell? ⟨sz+1,0,none⟩=some (.slice bd n cb) :=aj bY.out 0;by_cases hbig:1024<P
 ·have hbz:(1024:Int)<(P:Int) :=by omega
  have hbd:decide ((1024:Int)<(P:Int))=true:=decide_eq_true hbz;have Yl:Hid (1024<A.length*B.length) :=by show _<_;rw[jN.out,fG.out,HP.out];exact hbig
  clear hbig;have q3:=aj cZ.out 0;have f3:=bL cZ.out 0;have fB:Hid ((W3.setCell ⟨sz+1+1,0,none⟩ (.slice none 0 0)).cell? ⟨sz+1+1,0,none⟩=some (.slice none 0 0)) :=by exact QL
  have jF:Hid (aar w.heap.size w (W3.setCell ⟨sz+1+1,0,none⟩ (.slice none 0 0))) :=HB3.out.trans (((But.refl (fun b=>b=sz+1+1) W3).set (sz+1+1) 0 _ rfl).below HB3.out.size (fun j hj e=>by have:=uq.out;omega));go_wp2_with fail;refine aaV (v:= .tuple #[.agg #[.slice none 0 0],.int .i64 12]) (by simp[aaU,Tryd.results15,go_sem,fB.out]) rfl ?_;exact⟨jF.out,aat (aav ⟨jm.out,nI.out,Yl.out,rfl⟩)⟩
 have hbz: ¬(1024:Int)<(P:Int) :=by omega
 have hbd:decide ((1024:Int)<(P:Int))=false:=decide_eq_false hbz;have qp:Hid (A.length*B.length≤1024) :=by show _≤_;rw[jN.out,fG.out,HP.out];omega
 clear hbig;go_upto_region 5 with fail;clear hwr hbz hbd;have ug:=ah (Bb A B how YZ.out ad bd ca cb W3 jm.out nI.out iY.out.sA iY.out.sB (xx jm.out nI.out (iY.out.low jm.out nI.out)) iY.out.ha iY.out.hb);rw[jN.out,fG.out]at ug;go_wp2_with fail;refine ug.out.mono ?_;rintro e W4⟨ks,rb,vl,vf,vn,vw,vr,sn,ls,Z,us,aB,ns,ak,R,rfl,hF,Cf,hme,hll,hG,hnd,hz,Ba⟩;obtain⟨-,iw,hrows⟩ :=hG.done Ba;have zB:=hG.few jm.out nI.out hnd hz;have Ns:=xx jm.out nI.out (iY.out.low jm.out nI.out);obtain⟨uo,hraw⟩ :=hF.raw (hG.uE.trans hG.mH.symm) (by rw[hG.mH];exact Ba) (by omega) (by omega) hrows;have Co:=ah (zL hC vl vf vn ls ak aB W4 uo hraw);have rT:Hid (kD A B ls) :=⟨⟨Cf,fun r hr=>by
  rcases List.mem_append.1 ((hme r).1 hr)with h|h;·obtain⟨s,hs,a,ha,rfl⟩ :=iU.1 h;exact jm.out.pos s hs a ha
  ·obtain⟨s,hs,a,ha,rfl⟩ :=iU.1 h;exact nI.out.pos s hs a ha⟩,hme⟩;rw[Cg A B (wJ how) ls (-9) jm.out.pos nI.out.pos (by decide)]at iw;have qU:=ah iw;have eF:=ah (HB3.out.trans (hF.below.mono HB3.out.size));have anD:=ah (aC cZ.out hF.below);obtain⟨al,cl,rfl⟩ : ∃a c,vl= .slice a ls.length c:=by obtain⟨a,c,h,_⟩ :=uo;exact⟨a,c,h⟩
 obtain⟨af,cf,rfl⟩ : ∃a c,vf= .slice a ak.length c:=by obtain⟨a,c,h,_⟩ :=hraw.fin;exact⟨a,c,h⟩
 obtain⟨an,cn,rfl⟩ : ∃a c,vn= .slice a aB.length c:=by obtain⟨a,c,h,_⟩ :=hraw.nx;exact⟨a,c,h⟩
 clear hF Cf hme hll hG hnd hz Ba iw hrows zB Ns uo hraw ug;go_wp2_with fail;refine Co.out.mono ?_;intro e W5 hT;have hJ:=Oj (op:=wJ how) jm.out nI.out qp.out rT.out qU.out (aaT _ _) hT;obtain⟨a,k,cp,c,rfl,r0,r1,r2,hJ2⟩ :=hJ.store eF.out anD.out (by have:=uq.out;omega);have HJ:=ah hJ2;have HR2:=ah r2;unfold sM;clear hJ hJ2 r2 hT Co;go_wp2_with fail;refine aaV (v:= .tuple #[.agg #[.slice a k cp],.int .i64 c]) (by simp[aaU,Tryd.results15,go_sem,HR2.out]) rfl ?_;exact HJ.out
theorem XB:wJ 0=fun x y=>x&&y:=by funext x y;cases x<;>cases y<;>rfl
theorem NR:wJ 1=fun x y=>x ||y:=by funext x y;cases x<;>cases y<;>rfl
theorem KT(hC:iI)(A B:List aT)(ad bd:Option aap)(ca cb:Nat)(w:aaa)(h:mW A B ad bd w) :aau Tryd.prog 5 #[.agg #[.slice ad A.length ca],.agg #[.slice bd B.length cb]] w (jI A B (fun x y=>x&&y) w) :=by have hs:=wF w (.slice ad A.length ca) (.slice bd B.length cb);dsimp only at hs;obtain⟨p0,p1,p2,hb⟩ :=hs;have iY:=ah (Dt hC A B 0 (aav rfl) ad bd ca cb _ (h.below hb));rw[XB]at iY;have HB:=ah hb;have cZ:=ah p2;have c0:=aj p0 0;have c1:=aj p1 0;clear h hb p0 p1 p2;go_enter Tryd.func5,Tryd.ntmps5;go_upto_region 1 with fail;generalize((w.alloc (.cells #[.slice ad A.length ca] 25)).alloc (.cells #[.slice bd B.length cb] 25)).alloc (.cells #[.slice none 0 0] 25)=W1 at*;go_wp2_with fail;refine iY.out.mono ?_;intro e W8 hJ;obtain⟨a,n,cp,c,rfl,r0,r1,r2,hJ2⟩ :=hJ.store HB.out cZ.out (by omega);have HJ:=ah hJ2;have HR2:=ah r2;unfold sM;clear hJ hJ2 r2;go_wp2_with fail;refine aaV (v:= .tuple #[.agg #[.slice a n cp],.int .i64 c]) (by simp[aaU,Tryd.results5,go_sem,HR2.out]) rfl ?_;exact HJ.out
theorem Hw(hC:iI)(A B:List aT)(ad bd:Option aap)(ca cb:Nat)(w:aaa)(h:mW A B ad bd w) :aau Tryd.prog 8 #[.agg #[.slice ad A.length ca],.agg #[.slice bd B.length cb]] w (jI A B (fun x y=>x ||y) w) :=by have hs:=wF w (.slice ad A.length ca) (.slice bd B.length cb);dsimp only at hs;obtain⟨p0,p1,p2,hb⟩ :=hs;have iY:=ah (Dt hC A B 1 (aat rfl) ad bd ca cb _ (h.below hb));rw[NR]at iY;have HB:=ah hb;have cZ:=ah p2;have c0:=aj p0 0;have c1:=aj p1 0;clear h hb p0 p1 p2;go_enter Tryd.func8,Tryd.ntmps8;go_upto_region 1 with fail;generalize((w.alloc (.cells #[.slice ad A.length ca] 25)).alloc (.cells #[.slice bd B.length cb] 25)).alloc (.cells #[.slice none 0 0] 25)=W1 at*;go_wp2_with fail;refine iY.out.mono ?_;intro e W8 hJ;obtain⟨a,n,cp,c,rfl,r0,r1,r2,hJ2⟩ :=hJ.store HB.out cZ.out (by omega);have HJ:=ah hJ2;have HR2:=ah r2;unfold sM;clear hJ hJ2 r2;go_wp2_with fail;refine aaV (v:= .tuple #[.agg #[.slice a n cp],.int .i64 c]) (by simp[aaU,Tryd.results8,go_sem,HR2.out]) rfl ?_;exact HJ.out
abbrev DC:List aT:=[(false,[],-1)]
theorem YK:iF DC=fun _=>false:=by
 have h: ∀(w:List Int),(w.foldl (bu DC) (-1))= -1:=by
  intro w;induction w with
  |nil=>rfl
  |cons a w ih=>exact ih
 funext w;cases w with
 |nil=>rfl
 |cons a w=>show fK DC (w.foldl (bu DC) (-1))=false;rw[h];rfl
def mQ(ak:List Bool)(i:Nat) :List Bool:=(ak.take i).map (!·)++ak.drop i
theorem Vk(ak:List Bool)(i:Nat)(hi:i≤ak.length) :(mQ ak i).length=ak.length:=by simp[mQ];omega
theorem PX (ak : List Bool) (i : Nat) (hi : i < ak.length) : mQ ak (i + 1) = (mQ ak i).set i (!(ak.getD i false)) ∧ (mQ ak i).getD i false = ak.getD i false := by
  have hd : ak.drop i = ak[i] :: ak.drop (i + 1) := (List.getElem_cons_drop hi).symm
  have hl : ((ak.take i).map (!·)).length = i := by simp; omega
  have hg : ak.getD i false = ak[i] := by rw [aaA, aaE hi]; rfl
  refine ⟨?_, ?_⟩
  · unfold mQ
    rw [List.take_succ_eq_append_getElem hi, List.map_append, List.map_singleton, hd, hg]
    conv => rhs; rw [List.set_append_right _ _ (by omega), hl, abC, List.set_cons_zero]
    rw [List.append_assoc]; rfl
  · unfold mQ
    rw [hd, hg, aaA, List.getElem?_append_right (by omega), hl, abC]
    rfl
theorem Uj(ak:List Bool) :mQ ak ak.length=ak.map (!·) :=by simp[mQ]
theorem RQ {ak:List Bool} {aB:List (List Nat)} {S:Nat} {ls:List Int} {F:eU}(hp:0<ak.length)(hs:Shut (aM ak aB) S ak.length)(hS:S=ls.length+1)(h:(aM ak aB).aW S 0=lQ ls F) :(aM (ak.map (!·)) aB).aW S 0=lQ ls (fun w=> !F w) :=by
 subst hS;have e1:(aM (ak.map (!·)) aB).aW (ls.length+1) 0=(⟨fun q=> !(ak.getD q false),(aM ak aB).nx⟩ :bK).aW (ls.length+1) 0:=by refine bK.Ai (A:=aM (ak.map (!·)) aB) (B:=⟨fun q=> !(ak.getD q false),(aM ak aB).nx⟩) (n:=ak.length) (fun q a hq ha=>hs q a hq ha) (fun q hq=> ?_) (fun q a _ _=>rfl) hp;show(ak.map (!·)).getD q false= !(ak.getD q false);rw[aaA,aaA,abI,aaE hq];rfl
 have e2: ∀(v:List Nat)(q:Nat),(⟨fun q=> !(ak.getD q false),(aM ak aB).nx⟩ :bK).acc q v= !((aM ak aB).acc q v) :=by
  intro v;induction v with
  |nil=>intro q;rfl
  |cons a v ih=>intro q;exact ih _
 rw[e1];funext v;have e3:=congrFun h v;unfold bK.aW lQ at e3⊢;rw[e2];cases hv:v.all (fun a=>decide (a<ls.length+1));·rfl
 ·rw[hv]at e3;simp only[Bool.true_and]at e3⊢;rw[e3]
theorem XN {W:aaa} {base g n cap:Nat} {zs:List Bool}(h:W.ownsRow base 4 1 (.slice (some ⟨g,0,none⟩) n cap) n (zs.map aa1)) {k:Nat}(hk:k<n)(x:Bool) :(W.setCell ⟨g,k,none⟩ (.bool x)).ownsRow base 4 1 (.slice (some ⟨g,0,none⟩) n cap) n ((zs.set k x).map aa1) :=by
 have hl:(zs.map aa1).length=n*1:=h.1;refine⟨by simp at hl⊢;exact hl,?_⟩;rcases h.2 with⟨h',_⟩| ⟨g',c',cur,h1,h2,h3,h4,h5,h6,h7⟩;·simp at h'
 ·simp only[Value.slice.injEq,Option.some.injEq,Addr.mk.injEq,and_true,true_and]at h1;obtain⟨rfl,rfl⟩ :=h1;refine aat ⟨g,cap,cur.setIfInBounds k (.bool x),rfl,h2,aL h3 k _,h4,h5,by simpa using h6,?_⟩;rw[Array.toList_setIfInBounds,List.take_set,h7,List.map_set]
theorem dY.ag4 {ks:uU} {w0 W:aaa} {rb g c n:Nat} {vl vn vw vr:aab} {word ls:List Int} {Z:List (List Int)} {us:List aab} {aB:List (List Nat)} {ns:List aab} {ak:List Bool} {R:aU}(h:dY ks w0 W rb vl (.slice (some ⟨g,0,none⟩) n c) vn vw vr word ls Z us aB ns ak R)(hn:ak.length=n) {k:Nat}(hk:k<n)(x:Bool) :dY ks w0 (W.setCell ⟨g,k,none⟩ (.bool x)) rb vl (.slice (some ⟨g,0,none⟩) n c) vn vw vr word ls Z us aB ns (ak.set k x) R:=by
 obtain⟨hge,cur,hg⟩ :=aA h.fin (b:=g) rfl;have ho: ∀(b:Nat)(cs:Array aab)(t:TypeId),t≠4→W.heap[b]?=some (.cells cs t)→(W.setCell ⟨g,k,none⟩ (.bool x)).heap[b]?=some (.cells cs t) :=by intro b cs t hn hh;rw[ay W g k _ b (bU hh hg hn)];exact hh
 have hown: ∀ {e base m:Nat} {v:aab} {xs:List aab},e≠4→W.ownsRow base e 1 v m xs→(W.setCell ⟨g,k,none⟩ (.bool x)).ownsRow base e 1 v m xs:=by intro e base m v xs he hx;refine aG hx (fun b hv=> ?_);obtain⟨_,gH,k2⟩ :=aA hx hv;rw[ho b gH _ he k2,k2]
 have hbs:But (fun b=>b=g) W (W.setCell ⟨g,k,none⟩ (.bool x)) :=(But.refl _ _).set g k _ rfl;refine⟨h.below.trans (hbs.below h.below.size (fun j hj e=>by omega)),h.low,fun p hp=>⟨(h.box p hp).1,ho _ _ _ (h.box p hp).1.2.2.2 (h.box p hp).2⟩,ho _ _ _ (by decide) h.bW,h.rows.but hbs (fun b hb gH k2=>by subst hb;exact bU hg k2 (by decide) rfl),h.mE,h.AQ,hown (by decide) h.outer,h.row,hown (by decide) h.nx,h.zu,h.apart,?_⟩;have hf:=h.fin;subst hn;have:=XN hf hk x;rw[abf];exact this
theorem yJ:bP DC:=⟨by decide,by decide,fun s hs=>by rw[List.mem_singleton.1 hs];exact⟨⟨abk,fun a ha=>absurd ha (by simp),by show 0≤_;omega⟩,by decide,by decide⟩⟩
theorem WY:bP mq:=⟨by decide,by decide,fun s hs=>by rw[List.mem_singleton.1 hs];exact⟨⟨abk,fun a ha=>absurd ha (by simp),by show 0≤_;omega⟩,by decide,by decide⟩⟩
theorem XF(A:List aT) :kr A mq (fun x _=> !x)=fun w=> !(kr A DC (wJ 1) w) :=by funext w;have h:=congrFun YK w;show(!(iF A w))= !(wJ 1 (iF A w) (iF DC w));rw[h,NR];simp
theorem Pq(W:aaa)(ρ:abd→aab)(o:Oper)(x:abd)(ho:o.op= .load 4 x)(b off:Nat)(v:aab)(hx:ρ x= .pointer (some ⟨b,off,none⟩))(h0:W.cell? ⟨b,off,none⟩=some v) :(execOp ρ o).run Tryd.prog W= .ok (.value v) W:=by exact vG
theorem Ng(W:aaa)(ρ:abd→aab)(o:Oper)(x y:abd)(ho:o.op= .store 4 x y)(b off:Nat)(f:Bool)(u:aab)(hx:ρ x= .pointer (some ⟨b,off,none⟩))(hy:ρ y= .bool f)(h0:W.cell? ⟨b,off,none⟩=some u)(hf:W.frozen? ⟨b,off,none⟩=false) :(execOp ρ o).run Tryd.prog W= .ok .skip (W.setCell ⟨b,off,none⟩ (.bool f)) :=by exact BN
theorem FQ(hC:iI)(A:List aT)(ad:Option aap)(ca:Nat)(w:aaa)(hsA: ∀s∈A,s.2.1.length≤4096)(hlA:A.length≤1048576)(hLo:bP A→qJ A)(ha:dP w ad A) :aau Tryd.prog 13 #[.agg #[.slice ad A.length ca]] w (jI A mq (fun x _=> !x) w) :=by
 obtain⟨m,hm⟩ : ∃m,A.length=m:=⟨_,rfl⟩;have jN:=ah hm;rw[hm];clear hm;have hz1:(w.alloc (.cells #[.slice ad m ca] 25)).heap.size=w.heap.size+1:=by simp
 have hb1:aar w.heap.size w ((w.alloc (.cells #[.slice ad m ca] 25)).alloc (.cells #[.slice none 0 0] 25)) :=((aaT _ _).alloc (aax _) _).alloc (by rw[hz1];omega) _;obtain⟨p0,p1⟩ :=H9 w (.cells #[.slice ad m ca] 25) (.cells #[.slice none 0 0] 25);have HB1:=ah hb1;have jc:=ah p0;have bY:=ah p1;have DJ:=ah hsA;have mM:=ah hlA;have xH:=ah hLo;have HA:=ah ha;clear hb1 p0 p1 hz1 hsA hlA hLo ha;go_enter Tryd.func13,Tryd.ntmps13;go_upto_region 1 with fail;generalize(w.alloc (.cells #[.slice ad m ca] 25)).alloc (.cells #[.slice none 0 0] 25)=W1 at*;obtain⟨sz,hsz⟩ : ∃sz,w.heap.size=sz:=⟨_,rfl⟩;have uq:=ah hsz;rw[hsz]at jc bY;simp only[hsz];clear hsz;have q0:W1.cell? ⟨sz,0,none⟩=some (.slice ad m ca) :=aj jc.out 0;have hc1:=Ao ca ad A W1 DJ.out mM.out (HA.out.below HB1.out);rw[jN.out]at hc1;obtain⟨fa,hfa⟩ : ∃fa,sI A=fa:=⟨_,rfl⟩
 rw[hfa]at hc1;have CJ:=ah hfa;clear hfa;go_wp2_with fail;refine hc1.mono ?_;rintro e W2⟨rfl,hb2⟩;have HB2:=ah (HB1.out.trans (hb2.mono HB1.out.size));replace jc:=ah (aC jc.out hb2);replace bY:=ah (aC bY.out hb2);clear hb2 hc1 q0 HB1;cases fa
 ·have HN:Hid (¬(bP A∧bP mq)) :=fun h=>by have:=(jP A (fun s hs=>aas (DJ.out s hs) (by decide))).2 h.1;exact Rv
  have q3:=aj bY.out 0;have f3:=bL bY.out 0;have fB:Hid ((W2.setCell ⟨sz+1,0,none⟩ (.slice none 0 0)).cell? ⟨sz+1,0,none⟩=some (.slice none 0 0)) :=by show _=_;rw[aj (aL bY.out 0 _) 0];simp
  have jF:Hid (aar w.heap.size w (W2.setCell ⟨sz+1,0,none⟩ (.slice none 0 0))) :=HB2.out.trans (((But.refl (fun b=>b=sz+1) W2).set (sz+1) 0 _ rfl).below HB2.out.size (fun j hj e=>by have:=uq.out;omega));go_wp2_with fail;refine aaV (v:= .tuple #[.agg #[.slice none 0 0],.int .i64 1]) (by simp[aaU,Tryd.results13,go_sem,fB.out]) rfl ?_;exact⟨jF.out,aav ⟨HN.out,rfl⟩⟩
 have pE:=(jP A (fun s hs=>aas (DJ.out s hs) (by decide))).1 CJ.out;have jm:=ah pE;clear pE;have q0:W2.cell? ⟨sz,0,none⟩=some (.slice ad m ca) :=aj jc.out 0;go_upto_region 3 with fail;have hb3:aar W2.heap.size W2 (W2.alloc (.cells #[.bool false,.slice none 0 0,.int .i64 (-1)] 42)) :=(aaT _ _).alloc (aax _) _;have AP:=aa8 W2 (.cells #[.bool false,.slice none 0 0,.int .i64 (-1)] 42);have hLow:qJ (A++DC) :=fun s hs=>by
  rcases List.mem_append.1 hs with hs|hs;·exact xH.out jm.out s hs
  ·rw[List.mem_singleton.1 hs];exact⟨abk,fun a ha=>absurd ha (by simp),by show 0≤_;omega⟩
 have ug:=ah (Bb A DC 1 (aat rfl) ad (some ⟨W2.heap.size,0,none⟩) ca 1 _ jm.out yJ DJ.out (fun s hs=>by rw[List.mem_singleton.1 hs];show 0≤_;omega) (xx jm.out yJ hLow) ((HA.out.below HB2.out).below hb3) (dP.one AP));have HRF:=ah (xx jm.out yJ hLow);rw[jN.out]at ug;have HB3:=ah (HB2.out.trans (hb3.mono HB2.out.size));replace bY:=ah (aC bY.out hb3);clear hb3 AP hLow;go_wp2_with fail;refine ug.out.mono ?_;rintro e W4⟨ks,rb,vl,vf,vn,vw,vr,sn,ls,Z,us,aB,ns,ak,R,rfl,hF,Cf,hme,hll,hG,hnd,hz,Ba⟩;obtain⟨-,iw,hrows⟩ :=hG.done Ba;have zB:=hG.few jm.out yJ hnd hz;have hnl:aB.length=ak.length:=hG.uE.trans hG.mH.symm;have hfp:0<ak.length:=by rw[hG.mH];exact Ba
 have rT:Hid (kD A mq ls) :=⟨⟨Cf,fun r hr=>by
  rcases List.mem_append.1 ((hme r).1 hr)with h|h;·obtain⟨s,hs,a,ha,rfl⟩ :=iU.1 h;exact jm.out.pos s hs a ha
  ·exact absurd h (by simp[bE])⟩,hme⟩;rw[Cg A DC (wJ 1) ls (-9) jm.out.pos yJ.pos (by decide)]at iw;have ahk:ls.length+1≤1048577:=by have:=HRF.out;omega
 have qU:=ah iw;have aaZ:=ah hrows;have Fj:=ah hnl;have HFp:=ah hfp;have wV:=ah ahk;obtain⟨al,cl,rfl⟩ : ∃a c,vl= .slice a ls.length c:=by obtain⟨a,c,h,_⟩ :=hF.rows.hold hF.mE;exact⟨a,c,h⟩
 obtain⟨gf,cf,rfl⟩ : ∃g c,vf= .slice (some ⟨g,0,none⟩) ak.length c:=by
  rcases bH hF.fin with⟨h,h0⟩| ⟨g,c,h,_,_⟩;·omega
  ·exact⟨g,c,h⟩
 obtain⟨an,cn,rfl⟩ : ∃a c,vn= .slice a aB.length c:=by
  rcases bH hF.nx with⟨h,h0⟩| ⟨g,c,h,_,_⟩;·exact⟨none,0,by rw[h,h0]⟩
  ·exact⟨_,c,h⟩
 have HF:=ah hF;have eF:=ah (HB3.out.trans (hF.below.mono HB3.out.size));replace bY:=ah (aC bY.out hF.below);clear hF Cf hme hll hG hnd hz Ba iw hrows hnl ahk ug q0;go_upto_region 4 with fail;have hb5:aar W4.heap.size W4 (W4.alloc (.cells #[.slice al ls.length cl,.slice (some ⟨gf,0,none⟩) ak.length cf,.slice an aB.length cn] 60)) :=(aaT _ _).alloc (aax _) _;have I6:=aa8 W4 (.cells #[.slice al ls.length cl,.slice (some ⟨gf,0,none⟩) ak.length cf,.slice an aB.length cn] 60);have kK:=ah I6;replace HF:=ah (HF.out.keep hb5);replace eF:=ah (eF.out.trans (hb5.mono eF.out.size));replace bY:=ah (aC bY.out hb5);have htb:sz+1<W4.heap.size:=by
  have h:=(Array.getElem?_eq_some_iff.1 bY.out).1;have e:(W4.alloc (.cells #[.slice al ls.length cl,.slice (some ⟨gf,0,none⟩) ak.length cf,.slice an aB.length cn] 60)).heap.size=W4.heap.size+1:=by simp
  rw[e]at h;have hne:sz+1≠W4.heap.size:=by intro e2;have h1:=bY.out;rw[e2,I6]at h1;simp only[Option.some.injEq,Obj.cells.injEq]at h1;exact absurd h1.2.1 (by decide)
  omega
 have HTb:=ah htb;clear hb5 I6 htb;generalize W4.alloc (.cells #[.slice al ls.length cl,.slice (some ⟨gf,0,none⟩) ak.length cf,.slice an aB.length cn] 60)=W5 at*;generalize W4.heap.size=tb at*;obtain⟨N,hN⟩ : ∃N,ak.length=N:=⟨_,rfl⟩;have HN:=ah hN;rw[hN]at zB;rw[hN]at HF kK;simp only[hN];clear hN hfp;go_wp2_with fail;go_loopw [5](fun iv wx=>∃i:Nat,i≤N∧iv= .int .i64 (i:Int)∧dY ks (W2.alloc (.cells #[.bool false,.slice none 0 0,.int .i64 (-1)] 42)) wx rb (.slice al ls.length cl) (.slice (some ⟨gf,0,none⟩) N cf) (.slice an aB.length cn) vw vr sn ls (Z.map lU) us aB ns (mQ ak i) R∧wx.heap[tb]?=some (.cells #[.slice al ls.length cl,.slice (some ⟨gf,0,none⟩) N cf,.slice an aB.length cn] 60)∧wx.heap[sz+1]?=some (.cells #[.slice none 0 0] 25)∧aar w.heap.size w wx)(fun iv _=>N-(intOf iv).toNat);case atStart=>exact⟨0,abp _,rfl,HF.out,kK.out,bY.out,eF.out⟩
 case round=>
  clear HF kK bY eF;obtain⟨i,hi,rfl,hF,hr,hp,hbx⟩ :=hrel;have HF:=ah hF;have kK:=ah hr;have bY:=ah hp;have qL:=ah hbx;clear hF hr hp hbx;have r1:wr.cell? ⟨tb,1,none⟩=some (.slice (some ⟨gf,0,none⟩) N cf) :=aj kK.out 1;by_cases hin:i<N
  ·have Bf:(i:Int)<(N:Int) :=by omega
   have hfl:(mQ ak i).length=N:=by rw[Vk ak i (by rw[HN.out];omega),HN.out]
   obtain⟨f1,f2⟩ :=PX ak i (by rw[HN.out];exact hin);go_upto_region 7 with fail;refine wp_region_held (S:=fun u=>u.cell? ⟨tb,1,none⟩=some (.slice (some ⟨gf,0,none⟩) N cf)) (by kernel_rfl) ?_;have hbd:aar wr.heap.size wr ({heap:=wr.heap,tape:=wr.tape,drawn:=wr.drawn+1,os:=wr.os,output:=wr.output} :aaa) :=(aaT _ _).drew;generalize({heap:=wr.heap,tape:=wr.tape,drawn:=wr.drawn+1,os:=wr.os,output:=wr.output} :aaa)=Wd at*;replace HF:=ah (HF.out.keep hbd);replace kK:=ah (aC kK.out hbd);replace bY:=ah (aC bY.out hbd);replace qL:=ah (qL.out.trans (hbd.mono qL.out.size));clear hbd;have hof:Wd.ownsRow (W2.alloc (.cells #[.bool false,.slice none 0 0,.int .i64 (-1)] 42)).heap.size 4 1 (.slice (some ⟨gf,0,none⟩) N cf) N ((mQ ak i).map aa1) :=by have h:=HF.out.fin;rw[hfl]at h;exact h
   obtain⟨hge,arT,hgf⟩ :=aA hof (b:=gf) rfl;have k0:Wd.cell? ⟨gf,i,none⟩=some (.bool (ak.getD i false)) :=aQ hof (by rw[abI,aaE (by rw[hfl];exact hin)];rw[aaA,aaE (by rw[hfl];exact hin)]at f2;show some (aa1 (mQ ak i)[i])=_;rw[show(mQ ak i)[i]=ak.getD i false from f2]);have z0:=gI hof i;have hF1:=HF.out.ag4 hfl hin (!(ak.getD i false));rw[←f1]at hF1;have A7:=ah hF1;have hset: ∀(b:Nat)(cs:Array aab)(t:TypeId),t≠4→Wd.heap[b]?=some (.cells cs t)→(Wd.setCell ⟨gf,i,none⟩ (.bool (!(ak.getD i false)))).heap[b]?=some (.cells cs t) :=by intro b cs t hn hh;rw[ay Wd gf i _ b (bU hh hgf hn)];exact hh
   have rP:=ah (hset _ _ _ (by decide) kK.out);have Iy:=ah (hset _ _ _ (by decide) bY.out);have vZ:Hid (aar w.heap.size w (Wd.setCell ⟨gf,i,none⟩ (.bool (!(ak.getD i false))))) :=qL.out.trans (((But.refl (fun b=>b=gf) Wd).set gf i _ rfl).below qL.out.size (fun j hj e=>by have h3:=HB3.out.size;omega));have hSd:(fun u=>u.cell? ⟨tb,1,none⟩=some (.slice (some ⟨gf,0,none⟩) N cf) :aaa→Prop) Wd:=aj kK.out 1;generalize ak.getD i false=fb at*;have dV:(fun u=>u.cell? ⟨tb,1,none⟩=some (.slice (some ⟨gf,0,none⟩) N cf) :aaa→Prop) (Wd.setCell ⟨gf,i,none⟩ (.bool (!fb))) :=aj rP.out 1;clear f1 f2 hof hge hgf hF1 hset hfl;try refine tn ?_
   refine tx 0 ?_;refine tx 1 ?_;refine tx 2 ?_;refine tx 3 ?_;refine tx 4 ?_;refine tx 5 ?_;refine tx 6 ?_;refine t1 7 (Pq Wd _ _ _ rfl gf i (.bool fb) (by kernel_rfl) k0) ?_;refine tx 8 ?_ (v:= .bool (!fb));refine tx 9 ?_;refine aF 10 (by kernel_rfl) ?_;refine bI _ rfl (by kernel_rfl) (Ng Wd _ _ _ _ rfl gf i (!fb) _ (by kernel_rfl) (by kernel_rfl) k0 z0) ?_;refine⟨dV,?_⟩;try refine tn ?_
   refine wpAnyH_done (by kernel_rfl) ?_ _;clear dV hSd k0 z0 HF kK bY qL r1;go_wp2_with fail;go_roundw;case rel=>exact⟨i+1,by omega,by go_num,A7.out,rP.out,Iy.out,vZ.out⟩
   case measure=>simp[intOf];omega
  ·have Bf: ¬(i:Int)<(N:Int) :=by omega
   have hiN:i=ak.length:=by rw[HN.out];omega
   have hFe:=HF.out;rw[hiN,Uj]at hFe;have hml:(ak.map (!·)).length=ak.length:=by simp
   obtain⟨uo,hraw⟩ :=hFe.raw (by rw[hml];exact Fj.out) (by rw[hml];exact HFp.out) (by rw[hml,HN.out];omega) wV.out (by rw[hml];exact aaZ.out);have hsh:Shut (aM ak aB) (ls.length+1) ak.length:=fun q a hq ha=>(aaZ.out q hq).2 a ha;have iw:=RQ HFp.out hsh rfl qU.out;rw[←XF A]at iw;have Co:=ah (zL hC _ _ _ ls _ aB wr uo hraw);have aod:=ah iw;have r0:wr.cell? ⟨tb,0,none⟩=some (.slice al ls.length cl) :=aj kK.out 0;have r2:wr.cell? ⟨tb,2,none⟩=some (.slice an aB.length cn) :=aj kK.out 2;have qp:Hid (A.length*mq.length≤1024) :=by show A.length*1≤1024;have:=jm.out.2.1;omega
   clear hiN hFe uo hraw hsh iw hml;go_wp2_with fail;refine Co.out.mono ?_;intro e W6 hT;have hJ:=Oj (op:=fun x _=> !x) jm.out WY qp.out rT.out aod.out (aaT _ _) hT;obtain⟨a,k,cp,c,rfl,t0,t1,t2,hJ2⟩ :=hJ.store qL.out bY.out (by have:=uq.out;omega);have HJ:=ah hJ2;have HR2:=ah t2;unfold sM;clear hJ hJ2 t2 hT Co;go_wp2_with fail;refine aaV (v:= .tuple #[.agg #[.slice a k cp],.int .i64 c]) (by simp[aaU,Tryd.results13,go_sem,HR2.out]) rfl ?_;exact HJ.out
def bV(w:aaa)(b:Nat)(cv:aab)(at' sd:Int) :Prop:=w.heap[b]?=some (.cells #[cv,.int .i64 at',.int .i64 sd] 78 (0,0))
def Code(w:aaa)(b:Nat)(ao:Option aap)(n:Nat) :Prop:=∀j,j<n→∃blk off z,ao=some ⟨blk,off,none⟩∧blk≠b∧0≤z∧z≤255∧w.cell? ⟨blk,off+j,none⟩=some (.int .u8 z)
theorem bV.cell {w:aaa} {b:Nat} {cv:aab} {a sd:Int}(h:bV w b cv a sd) :w.cell? ⟨b,0,none⟩=some cv∧w.cell? ⟨b,1,none⟩=some (.int .i64 a)∧w.cell? ⟨b,2,none⟩=some (.int .i64 sd) :=by unfold bV at h;simp[World.cell?,h]
theorem bV.free {w:aaa} {b:Nat} {cv:aab} {a sd:Int}(h:bV w b cv a sd)(j:Nat) :w.frozen? ⟨b,j,none⟩=false:=frozen_of_row w b j _ _ h
theorem bV.lt {w:aaa} {b:Nat} {cv:aab} {a sd:Int}(h:bV w b cv a sd) :b<w.heap.size:=(Array.getElem?_eq_some_iff.1 h).1
theorem bV.set1 {w:aaa} {b:Nat} {cv:aab} {a sd:Int}(h:bV w b cv a sd)(a':Int) :bV (w.setCell ⟨b,1,none⟩ (.int .i64 a')) b cv a' sd:=by have:=abz w b 1 _ _ (.int .i64 a') h;simpa[bV]using this
theorem bV.set2 {w:aaa} {b:Nat} {cv:aab} {a sd:Int}(h:bV w b cv a sd)(s':Int) :bV (w.setCell ⟨b,2,none⟩ (.int .i64 s')) b cv a s':=by have:=abz w b 2 _ _ (.int .i64 s') h;simpa[bV]using this
theorem xq(w:aaa)(b j:Nat)(u:aab) :w.grownBy (w.setCell ⟨b,j,none⟩ u) (some b) :=⟨rfl,rfl,rfl,by simp,fun k _ hk=>abn w ⟨b,j,none⟩ k u (fun e=>hk (by simp[e]))⟩
theorem kG(w:aaa)(n:Nat)(row:Option Nat) :w.grownBy (w.drewN n) row:=⟨rfl,rfl,rfl,aax _,fun _ _ _=>rfl⟩
theorem Code.kept {w w':aaa} {b:Nat} {ao:Option aap} {n:Nat}(h:Code w b ao n)(hg:w.grownBy w' (some b)) :Code w' b ao n:=by intro j hj;obtain⟨blk,off,z,h1,h2,h3,h4,h5⟩ :=h j hj;exact⟨blk,off,z,h1,h2,h3,h4,hg.cell h5 (by simpa using h2)⟩
def sW(w:aaa)(b:Nat)(cv:aab)(a k m:Int)(e:aa5)(w':aaa) :Prop:=∃x a' tZ:Int,e= .returned (.int .i64 x)∧0≤x∧x≤m∧a≤a'∧a'≤a+k∧0≤tZ∧tZ<2147483648∧bV w' b cv a' tZ∧w.grownBy w' (some b)
theorem RS(b:Nat)(ao:Option aap)(n cap:Nat)(a sd:Int)(w:aaa)(hn:n≤1048576)(ha0:0≤a)(ha1:a<n)(hs0:0≤sd)(hs1:sd<2147483648)(hs:bV w b (.slice ao n cap) a sd)(hc:Code w b ao n) :aau Tryd.prog 42 #[.pointer (some ⟨b,0,none⟩)] w fun e w'=>sW w b (.slice ao n cap) a 1 255 e w':=by
 obtain⟨blk,off,z,rfl,hne,hz0,hz1,hzc⟩ :=hc a.toNat (by omega);obtain⟨A,rfl⟩ :=abw ha0;rw[Int.toNat_natCast]at hzc;obtain⟨c0,c1,c2⟩ :=hs.cell;have f1:=hs.free 1;have f2:=hs.free 2;have HS:=ah hs;have hle:(A:Int)+1≤(n:Int) :=by omega
 have hidx:(A:Int)+1-1<(n:Int) :=by omega
 have hA:A<n:=by omega
 clear hc hs;go_enter Tryd.func42,Tryd.ntmps42;go_wp2;go_quiet(fail);go_wp2;have HS2:Hid (bV ((w.setCell ⟨b,1,none⟩ (.int .i64 ((A:Int)+1))).drewN nq) b (.slice (some ⟨blk,off,none⟩) n cap) ((A:Int)+1) sd) :=HS.out.set1 _;have HG2:Hid (w.grownBy ((w.setCell ⟨b,1,none⟩ (.int .i64 ((A:Int)+1))).drewN nq) (some b)) :=bR (xq w b 1 _) (kG _ _ _);generalize(w.setCell ⟨b,1,none⟩ (.int .i64 ((A:Int)+1))).drewN nq=w2 at*;have amZ:w2.cell? ⟨blk,off+A,none⟩=some (.int .u8 z) :=HG2.out.cell hzc (by simpa using hne);have Hzc:=ah hzc;clear hzc c0 c1 c2 f1 f2;obtain⟨d0,d1,d2⟩ :=HS2.out.cell;have e1:=HS2.out.free 1;have e2:=HS2.out.free 2;go_region;have hm0:0≤(sd*31+z+7) %2147483648:=aa3 _ (by omega);have hm1:(sd*31+z+7) %2147483648<2147483648:=aa4 _ (by omega);generalize(sd*31+z+7) %2147483648=tZ at*;have fJ:Hid (bV (w2.setCell ⟨b,2,none⟩ (.int .i64 tZ)).drew b (.slice (some ⟨blk,off,none⟩) n cap) ((A:Int)+1) tZ) :=HS2.out.set2 _
 have RD:Hid (w.grownBy (w2.setCell ⟨b,2,none⟩ (.int .i64 tZ)).drew (some b)) :=bR HG2.out (bR (xq w2 b 2 _) (kG _ 1 _));generalize(w2.setCell ⟨b,2,none⟩ (.int .i64 tZ)).drew=w3 at*;have arO:w3.cell? ⟨blk,off+A,none⟩=some (.int .u8 z) :=RD.out.cell Hzc.out (by simpa using hne);clear d0 d1 d2 e1 e2 amZ HS2 HG2 HS;obtain⟨d0,d1,d2⟩ :=fJ.out.cell;go_wp2;go_quiet(fail);go_wp2;go_ret;unfold sW;exact⟨z,(A:Int)+1,tZ,rfl,hz0,hz1,by omega,by omega,hm0,hm1,fJ.out,bR RD.out (kG _ _ _)⟩
theorem Yr(b:Nat)(ao:Option aap)(n cap:Nat)(a sd:Int)(w:aaa)(hn:n≤1048576)(ha0:0≤a)(ha1: ¬a<n)(ha2:a≤1099511627776)(hs0:0≤sd)(hs1:sd<2147483648)(hs:bV w b (.slice ao n cap) a sd) :aau Tryd.prog 42 #[.pointer (some ⟨b,0,none⟩)] w fun e w'=>sW w b (.slice ao n cap) a 1 255 e w':=by
 obtain⟨c0,c1,c2⟩ :=hs.cell;have f1:=hs.free 1;have HS:=ah hs;have hle: ¬a+1≤(n:Int) :=by omega
 have arS:decide (a+1≤(n:Int))=false:=by simp;omega
 clear hs;go_enter Tryd.func42,Tryd.ntmps42;go_wp2;go_quiet(fail);go_wp2;have HS2:Hid (bV ((w.setCell ⟨b,1,none⟩ (.int .i64 (a+1))).drewN nq) b (.slice ao n cap) (a+1) sd) :=HS.out.set1 _;have HG2:Hid (w.grownBy ((w.setCell ⟨b,1,none⟩ (.int .i64 (a+1))).drewN nq) (some b)) :=bR (xq w b 1 _) (kG _ _ _);generalize(w.setCell ⟨b,1,none⟩ (.int .i64 (a+1))).drewN nq=w2 at*;clear c0 c1 c2 f1;obtain⟨d0,d1,d2⟩ :=HS2.out.cell;have e2:=HS2.out.free 2;by_cases asf:(4000:Int)+4*(n:Int)<a+1;·go_quiet(fail);go_wp2;go_ret;unfold sW;exact⟨0,a+1,sd,rfl,by omega,by omega,by omega,by omega,hs0,hs1,HS2.out,bR HG2.out (kG _ _ _)⟩
 ·have xJ:decide ((4000:Int)+4*(n:Int)<a+1)=false:=by simp;omega
  go_quiet(fail);go_wp2;have hm0:0≤(sd*1103515245+12345) %2147483648:=aa3 _ (by omega);have hm1:(sd*1103515245+12345) %2147483648<2147483648:=aa4 _ (by omega);go_ret;unfold sW;exact⟨_,a+1,_,rfl,by omega,by omega,by omega,by omega,hm0,hm1,bV.set2 (w:=w2.drewN nq) HS2.out _,bR HG2.out (bR (kG _ _ _) (xq (w2.drewN nq) b 2 _))⟩
theorem sF(b:Nat)(ao:Option aap)(n cap:Nat)(a sd:Int)(w:aaa)(hn:n≤1048576)(ha0:0≤a)(ha2:a≤1099511627776)(hs0:0≤sd)(hs1:sd<2147483648)(hs:bV w b (.slice ao n cap) a sd)(hc:Code w b ao n) :aau Tryd.prog 42 #[.pointer (some ⟨b,0,none⟩)] w fun e w'=>sW w b (.slice ao n cap) a 1 255 e w':=by
 by_cases h:a<n;·exact RS b ao n cap a sd w hn ha0 h hs0 hs1 hs hc
 ·exact Yr b ao n cap a sd w hn ha0 h ha2 hs0 hs1 hs
theorem lF(b:Nat)(ao:Option aap)(n cap:Nat)(a sd m:Int)(w:aaa)(hn:n≤1048576)(hm:1≤m)(hm2:m≤16777216)(ha0:0≤a)(ha2:a≤549755813888)(hs0:0≤sd)(hs1:sd<2147483648)(hs:bV w b (.slice ao n cap) a sd)(hc:Code w b ao n) :aau Tryd.prog 22 #[.pointer (some ⟨b,0,none⟩),.int .i64 m] w fun e w'=>sW w b (.slice ao n cap) a 3 (m-1) e w':=by
 have HS:=ah hs;have HC:=ah hc;clear hs hc;by_cases h1:m≤1;·go_enter Tryd.func22,Tryd.ntmps22;go_wp2;go_ret;unfold sW;exact⟨0,a,sd,rfl,by omega,by omega,by omega,by omega,hs0,hs1,HS.out,Ff _ _⟩
 ·by_cases h2:m≤256;·go_enter Tryd.func22,Tryd.ntmps22;go_wp2_with fail;refine(sF b ao n cap a sd _ hn ha0 (by omega) hs0 hs1 HS.out HC.out).mono ?_;rintro e w1⟨x,a1,yf,rfl,hx0,hx1,ze,AA,zD,hsd1,iN,hg1⟩;have hr0:=aa3 x (by omega:m≠0);have hr1:=aa4 x (by omega:0<m);have HR:=ah (aaR iN hg1);clear iN hg1;go_wp2;go_ret;unfold sW;exact⟨_,a1,yf,rfl,by omega,by omega,by omega,by omega,zD,hsd1,HR.out.1,HR.out.2⟩
  ·go_enter Tryd.func22,Tryd.ntmps22;go_wp2_with fail;refine(sF b ao n cap a sd _ hn ha0 (by omega) hs0 hs1 HS.out HC.out).mono ?_;rintro e w1⟨x,a1,yf,rfl,hx0,hx1,ze,AA,zD,hsd1,iN,hg1⟩;have HR:=ah (aaR iN hg1);have yN:=ah (HC.out.kept hg1);clear iN hg1 HC HS;go_wp2_with fail;refine(sF b ao n cap a1 yf _ hn (by omega) (by omega) zD hsd1 HR.out.1 yN.out).mono ?_;rintro e w2⟨y,a2,mR,rfl,hy0,hy1,FC,Fg,hsd2,anP,rz,hg2⟩;have HR2:=ah (aaR rz (bR HR.out.2 hg2));have GK:=ah (yN.out.kept hg2);clear rz hg2 yN HR;go_wp2_with fail;refine(sF b ao n cap a2 mR _ hn (by omega) (by omega) hsd2 anP HR2.out.1 GK.out).mono ?_;rintro e w3⟨z,a3,Og,rfl,hz0,hz1,NV,ha8,amG,anm,J9,hg3⟩;have HR3:=ah (aaR J9 (bR HR2.out.2 hg3));clear J9 hg3 GK HR2;have hr0:=aa3 (x*65536+y*256+z) (by omega:m≠0);have hr1:=aa4 (x*65536+y*256+z) (by omega:0<m);go_wp2;go_ret;unfold sW;exact⟨_,a3,Og,rfl,by omega,by omega,by omega,by omega,amG,anm,HR3.out.1,HR3.out.2⟩
def VB(w:aaa)(b:Nat)(cv:aab)(a k:Int)(e:aa5)(w':aaa) :Prop:=∃(x:Bool)(a' tZ:Int),e= .returned (.bool x)∧a≤a'∧a'≤a+k∧0≤tZ∧tZ<2147483648∧bV w' b cv a' tZ∧w.grownBy w' (some b)
theorem Q6(b:Nat)(ao:Option aap)(n cap:Nat)(a sd m:Int)(w:aaa)(hn:n≤1048576)(hm:1≤m)(hm2:m≤16777216)(ha0:0≤a)(ha2:a≤549755813888)(hs0:0≤sd)(hs1:sd<2147483648)(hs:bV w b (.slice ao n cap) a sd)(hc:Code w b ao n) :aau Tryd.prog 20 #[.pointer (some ⟨b,0,none⟩),.int .i64 m] w fun e w'=>VB w b (.slice ao n cap) a 3 e w':=by have HS:=ah hs;have HC:=ah hc;clear hs hc;go_enter Tryd.func20,Tryd.ntmps20;go_wp2_with fail;refine(lF b ao n cap a sd m _ hn hm hm2 ha0 ha2 hs0 hs1 HS.out HC.out).mono ?_;rintro e w1⟨x,a1,yf,rfl,hx0,hx1,ze,AA,zD,hsd1,iN,hg1⟩;have HR:=ah (aaR iN hg1);clear iN hg1;go_wp2;go_ret;unfold VB;exact⟨_,a1,yf,rfl,by omega,by omega,zD,hsd1,HR.out.1,HR.out.2⟩
def Yk(m:Nat) :aab→Bool
 | .string s=>decide (s.size≤m)
 |_=>false
theorem abV {m:Nat} {v:aab}(h:Yk m v=true) : ∃t,v= .string t∧t.size≤m:=by
 cases v with
 |string s=>exact⟨s,rfl,by simpa[Yk]using h⟩
 |_=>cases h
theorem IY {w w1:aaa} {C:Array aab} {t:TypeId} {b:Nat}(hg:(w.alloc (.cells C t)).grownBy w1 (some b))(hb:b<w.heap.size)(m:Nat)(hC:C.all (Yk m)=true)(j:Nat)(hj:j<C.size) : ∃t,w1.cell? ⟨w.heap.size,j,none⟩=some (.string t)∧t.size≤m:=by
 have h1:(w.alloc (.cells C t)).cell? ⟨w.heap.size,j,none⟩=some C[j] :=by rw[World.cell?_alloc_at (hn:=rfl)];exact Array.getElem?_eq_getElem hj
 have h2:=hg.cell h1 (by simp;omega);rw[Array.all_eq_true]at hC;obtain⟨s,hs,hm⟩ :=abV (hC j hj);rw[hs]at h2;exact⟨s,h2,hm⟩
def rC(w:aaa)(b:Nat)(cv:aab)(a k:Int)(m:Nat)(e:aa5)(w':aaa) :Prop:=∃(t:ByteArray)(a' tZ:Int),e= .returned (.string t)∧t.size≤m∧a≤a'∧a'≤a+k∧0≤tZ∧tZ<2147483648∧bV w' b cv a' tZ∧w.grownBy w' (some b)
theorem bV.alloc {w:aaa} {b:Nat} {cv:aab} {a sd:Int}(h:bV w b cv a sd)(o:Obj) :bV (w.alloc o) b cv a sd:=by unfold bV at*;rw[abx w o b (Array.getElem?_eq_some_iff.1 h).1];exact h
theorem Code.alloc {w:aaa} {b:Nat} {ao:Option aap} {n:Nat}(h:Code w b ao n)(o:Obj) :Code (w.alloc o) b ao n:=h.kept (aa9 w o (some b))
def BytesAt(w:aaa)(g:Nat)(l:List UInt8) :Prop:=∀j(hj:j<l.length),w.cell? ⟨g,j,none⟩=some (.int .u8 (l[j].toNat:Int))
theorem BytesAt.take {w:aaa} {g:Nat} {l:List UInt8}(h:BytesAt w g l)(k:Nat) :BytesAt w g (l.take k) :=fun j hj=>by rw[abt]at hj;rw[h j (by omega)];simp
theorem BytesAt.text {w:aaa} {g:Nat} {l:List UInt8}(h:BytesAt w g l)(k cap:Nat)(hk:l.length=k) :(convert 22 9 (.slice (some ⟨g,0,none⟩) k cap)).run Tryd.prog w= .ok (.string ⟨l.toArray⟩) w:=by subst hk;exact run_convert_bytes_back w 22 9 5 ⟨g,0,none⟩ cap l Tryd.underlying22 Tryd.underlying5 Tryd.underlying9 fun j hj=>by rw[wS];exact h j hj
theorem BytesAt.kept {w w':aaa} {g b:Nat} {l:List UInt8}(h:BytesAt w g l)(hg:w.grownBy w' (some b))(hne:g≠b) :BytesAt w' g l:=fun j hj=>hg.cell (h j hj) (by simpa using hne)
theorem Az {w:aaa} {g k:Nat} {v u:aab}(h:w.cell? ⟨g,k,none⟩=some v) :(w.setCell ⟨g,k,none⟩ u).cell? ⟨g,k,none⟩=some u:=by exact World.cell?_setCell_same (h:=h) ..
theorem DX {w:aaa} {g k j:Nat} {u:aab}(hne:j≠k) :(w.setCell ⟨g,k,none⟩ u).cell? ⟨g,j,none⟩=w.cell? ⟨g,j,none⟩ :=by exact World.cell?_setCell_other (h:=fun e=>hne (by injection e with _ e2 _;exact e2.symm)) ..
theorem BytesAt.set {w:aaa} {g:Nat} {l:List UInt8}(h:BytesAt w g l)(hg:g<w.heap.size)(k:Nat)(hk:k<l.length)(u:UInt8) :BytesAt (w.setCell ⟨g,k,none⟩ (.int .u8 (u.toNat:Int))) g (l.set k u) :=fun j hj=>by
 rw[abf]at hj;by_cases e:j=k;·subst e;rw[Az (h j hk)];simp
 ·rw[DX e,h j hj];simp[Ne.symm e]
theorem BytesAt.snoc {w:aaa} {g:Nat} {l:List UInt8}(h:BytesAt w g l)(hg:g<w.heap.size)(u:UInt8)(hc:(w.cell? ⟨g,l.length,none⟩).isSome=true) :BytesAt (w.setCell ⟨g,l.length,none⟩ (.int .u8 (u.toNat:Int))) g (l++ [u]) :=fun j hj=>by
 rw[aaQ]at hj;by_cases e:j=l.length;·subst e;obtain⟨v,hv⟩ :=Option.isSome_iff_exists.1 hc;rw[Az hv];simp
 ·have hjl:j<l.length:=by simp at hj;omega
  rw[DX e,h j hjl];simp[List.getElem_append_left hjl]
theorem bV.other {w:aaa} {b:Nat} {cv:aab} {a sd:Int}(h:bV w b cv a sd)(g k:Nat)(u:aab)(hne:g≠b) :bV (w.setCell ⟨g,k,none⟩ u) b cv a sd:=by unfold bV at*;rw[abn w ⟨g,k,none⟩ b u (fun e=>hne e.symm)];exact h
theorem Gx {w w3:aaa} {b g:Nat}(h:w.grownBy w3 (some b))(k:Nat)(u:aab)(hg:w.heap.size≤g) :w.grownBy (w3.setCell ⟨g,k,none⟩ u) (some b) :=⟨h.os,h.tape,h.output,by simpa using h.size,fun i hi hne=>by rw[abn w3 ⟨g,k,none⟩ i u (by simp;omega)];exact h.block i hi hne⟩
theorem setCells_one(w:aaa)(g m:Nat)(v:aab) :w.setCells g m [v]=w.setCell ⟨g,m,none⟩ v:=by simp[World.setCells]
theorem bytes_at(l:List UInt8)(j:Nat)(hj:j<l.length) :(aaF l)[j]?=some (.int .u8 (l[j].toNat:Int)) :=by simp[aaF,hj]
theorem ZF(y:Int)(h0:0≤y)(h1:y≤255) : ∃u:UInt8,(u.toNat:Int)=y:=⟨UInt8.ofNat y.toNat,by rw[UInt8.toNat_ofNat'];omega⟩
theorem size_mk(l:List UInt8) :(⟨l.toArray⟩ :ByteArray).size=l.length:=by rw[abl]
theorem Tryd.info5:(Tryd.prog.info? 5).map (fun i=>(i.zero,i.size,i.bytes))=some (some (.int .u8 0),1,1) :=by kernel_rfl
theorem Rf(w:aaa)(t:ByteArray)(cap:Nat)(mark:Nat×Nat)(hm:mark.1=(aal t cap).size)(hc:t.size≤cap)(hmk:mark.2=mark.1+1) :BytesAt (w.drew.alloc (.cells (aal t cap) 5 mark)) w.heap.size t.data.toList∧∀j,j<cap→((w.drew.alloc (.cells (aal t cap) 5 mark)).cell? ⟨w.heap.size,j,none⟩).isSome=true∧(w.drew.alloc (.cells (aal t cap) 5 mark)).frozen? ⟨w.heap.size,j,none⟩=false:=by
 have hr:(aal t cap).size=cap:=by simp[aal];have:t.data.size=t.size:=rfl;omega
 have hcell: ∀j,(w.drew.alloc (.cells (aal t cap) 5 mark)).cell? ⟨w.heap.size,j,none⟩=(aal t cap)[j]?:=fun j=>World.cell?_alloc_mark w.drew _ _ _ j;refine⟨fun j hj=> ?_,fun j hj=>⟨?_,?_⟩⟩
 ·rw[hcell];have hj2:j<t.data.size:=by simpa using hj
  have hj3:j<t.size:=hj2;simp[aal,Array.getElem?_append,hj3]
 ·rw[hcell,Array.getElem?_eq_getElem (by omega)];rfl
 ·have hb:(w.drew.alloc (.cells (aal t cap) 5 mark)).heap[w.heap.size]?=some (.cells (aal t cap) 5 mark) :=aa8 w.drew _;obtain⟨lo,hi⟩ :=mark;simp only at hm hmk;unfold World.frozen?;rw[hb];simp;omega
theorem Vn(b:Nat)(ao:Option aap)(n cap:Nat)(a sd:Int)(t:ByteArray)(w:aaa)(hn:n≤1048576)(htm:t.size≤65536)(ha0:0≤a)(ha2:a≤274877906944)(hs0:0≤sd)(hs1:sd<2147483648)(hs:bV w b (.slice ao n cap) a sd)(hc:Code w b ao n) :aau Tryd.prog 23 #[.pointer (some ⟨b,0,none⟩),.string t] w fun e w'=>rC w b (.slice ao n cap) a 12 (t.size+1) e w':=by
 obtain⟨i0,hi,hz0,hz1,hz2⟩ :=info_parts Tryd.info5;have HS:=ah hs;have HC:=ah hc;have hb:=hs.lt;have hcv:=run_bytes_of_string (P:=Tryd.prog) w 9 22 5 t Tryd.underlying9 Tryd.underlying22 Tryd.underlying5;have hcap:t.size≤grownCap w t.size 0 5:=grownCap_ge w t.size 0 5;generalize grownCap w t.size 0 5=bc at*;have hmb:=Rf w t bc ((aal t bc).size,(aal t bc).size+1) rfl hcap rfl;have xP:Hid (bV (w.drew.alloc (.cells (aal t bc) 5 ((aal t bc).size,(aal t bc).size+1))) b (.slice ao n cap) a sd) :=bV.alloc (w:=w.drew) hs _;have IE:Hid (w.grownBy (w.drew.alloc (.cells (aal t bc) 5 ((aal t bc).size,(aal t bc).size+1))) (some b)) :=bR (kG w 1 _) (aa9 w.drew _ (some b));have hz0':(w.drew.alloc (.cells (aal t bc) 5 ((aal t bc).size,(aal t bc).size+1))).heap.size=w.heap.size+1:=by simp
 generalize w.drew.alloc (.cells (aal t bc) 5 ((aal t bc).size,(aal t bc).size+1))=w0 at*;obtain⟨hby,hsp⟩ :=hmb;have HB0:=ah hby;have jc:=ah hsp;have hgb:w.heap.size≠b:=by omega
 clear hs hc hby hsp;generalize hgw:w.heap.size=g at*;have Hgw:=ah hgw;clear hgw;go_enter Tryd.func23,Tryd.ntmps23;go_wp2_with fail;clear hcv;refine(lF b ao n cap a sd 3 _ hn (by omega) (by omega) ha0 (by omega) hs0 hs1 xP.out (HC.out.kept IE.out)).mono ?_;rintro e w1⟨x,a1,yf,rfl,hx0,hx1,ze,AA,hd0,hd1,iN,hg1⟩;have pU:=ah iN;have xL:=ah (bR IE.out hg1);have HB1:=ah (HB0.out.kept hg1 hgb);have bY:Hid (∀j,j<bc→(w1.cell? ⟨g,j,none⟩).isSome=true∧w1.frozen? ⟨g,j,none⟩=false) :=fun j hj=>by have hblk:w1.heap[g]?=w0.heap[g]?:=hg1.block g (by omega) (by simpa using hgb);have e1:w1.cell? ⟨g,j,none⟩=w0.cell? ⟨g,j,none⟩ :=aa' hblk;have e2:w1.frozen? ⟨g,j,none⟩=w0.frozen? ⟨g,j,none⟩ :=aaY hblk;rw[e1,e2];exact jc.out j hj
 have hgl:g<w1.heap.size:=by have:=hg1.size;omega
 clear iN hg1 xP IE HB0 jc;have hlen:t.data.toList.length=t.size:=(abl t).symm;generalize t.data.toList=l at*;generalize hm:t.size=m at*;have Hm:=ah hm;clear hm;by_cases hx:x=0
 ·subst hx;go_wp2_with fail;refine(sF b ao n cap a1 yf _ hn (by omega) (by omega) hd0 hd1 pU.out (HC.out.kept xL.out)).mono ?_;rintro e w2⟨y,a2,mR,rfl,hy0,hy1,FC,Fg,hd2,hd3,hs2,hg2⟩;obtain⟨u,hu⟩ :=ZF y hy0 hy1;have HS2:=ah hs2;have HG2:=ah (bR xL.out hg2);have HB2:=ah (HB1.out.kept hg2 hgb);have cZ:Hid (∀j,j<bc→(w2.cell? ⟨g,j,none⟩).isSome=true∧w2.frozen? ⟨g,j,none⟩=false) :=fun j hj=>by have hblk:w2.heap[g]?=w1.heap[g]?:=hg2.block g hgl (by simpa using hgb);have e1:w2.cell? ⟨g,j,none⟩=w1.cell? ⟨g,j,none⟩ :=aa' hblk;have e2:w2.frozen? ⟨g,j,none⟩=w1.frozen? ⟨g,j,none⟩ :=aaY hblk;rw[e1,e2];exact bY.out j hj
  have Mo:g<w2.heap.size:=by have:=hg2.size;omega
  clear hs2 hg2 pU xL HB1 bY;subst hu;have HA:Hid (w2.grownBy (w2.alloc (.cells #[.int .u8 (u.toNat:Int)] 5)) (some b)) :=aa9 w2 _ (some b);have lq:=ah (HB2.out.kept HA.out hgb);go_wp2_with(at_builtin;refine wpList_append_arg _ rfl _ _ 22 rfl 5 i0 (.int .u8 0) 1 1 Tryd.underlying22 hi hz0 hz1 hz2 rfl (by decide) g 0 m bc (aaF l) rfl (by rw[ab'];omega) ?o1 ⟨w2.heap.size,0,none⟩ 1 1 [.int .u8 (u.toNat:Int)] rfl rfl ?o2 ?o3 ?o4 ?o5 ?o6 ?o7 ?o8);case o1=>
   intro j v hj;have hjl:j<l.length:=by have:=(List.getElem?_eq_some_iff.1 hj).1;rw[ab']at this;exact this
   rw[Nat.zero_add,lq.out j hjl];simp[aaF,hjl]at hj;rw[hj]
  case o2=>
   intro j v hj;match j,hj with
   |0,hj=>simp at hj;subst hj;simp[Addr.add]
  case o3=>intro v hv;simp at hv;subst hv;rfl
  case o4=>
   intro hr j hj;have hj0:j=0:=by simpa using hj
   subst hj0;have hblk:(w2.alloc (.cells #[.int .u8 (u.toNat:Int)] 5)).heap[g]?=w2.heap[g]?:=abx w2 _ g Mo;have e1:(w2.alloc (.cells #[.int .u8 (u.toNat:Int)] 5)).cell? ⟨g,0+m*1+0,none⟩=w2.cell? ⟨g,0+m*1+0,none⟩ :=aa' hblk;have e2:(w2.alloc (.cells #[.int .u8 (u.toNat:Int)] 5)).frozen? ⟨g,0+m*1+0,none⟩=w2.frozen? ⟨g,0+m*1+0,none⟩ :=aaY hblk;rw[e1,e2,show 0+m*1+0=m by omega];exact cZ.out m (by omega)
  case o5=>unfold maxLen;omega
  case o6=>omega
  case o7=>intro hr;rw[setCells_one];have hblk:(w2.alloc (.cells #[.int .u8 (u.toNat:Int)] 5)).heap[g]?=w2.heap[g]?:=abx w2 _ g Mo;have hce:(w2.alloc (.cells #[.int .u8 (u.toNat:Int)] 5)).cell? ⟨g,m,none⟩=w2.cell? ⟨g,m,none⟩ :=aa' hblk;have hbs:=BytesAt.snoc (w:=w2.alloc (.cells #[.int .u8 (u.toNat:Int)] 5)) lq.out (by simp;omega) u (by rw[hlen,hce];exact(cZ.out m (by omega)).1);rw[hlen]at hbs;have hcv:=hbs.text (m+1) bc (by rw[aaQ,hlen];rfl);have HR:=ah (aaR ((HS2.out.alloc (.cells #[.int .u8 (u.toNat:Int)] 5)).other g m (.int .u8 (u.toNat:Int)) hgb) (Gx (bR HG2.out HA.out) m (.int .u8 (u.toNat:Int)) (by rw[Hgw.out];exact aax _)));clear hbs HS2 HG2 HB2 lq cZ HA hblk hce;generalize(w2.alloc (.cells #[.int .u8 (u.toNat:Int)] 5)).setCell ⟨g,m,none⟩ (.int .u8 (u.toNat:Int))=w3 at*;exact afX
  case o8=>
   intro hr v' w3 hown hgw;rcases bH hown with⟨rfl,h0⟩| ⟨g',cap',rfl,hbg,asn⟩;·omega
   ·have hbs:BytesAt w3 g' (l++ [u]) :=fun j hj=>by
     rw[hown.cellAt j (by rw[aaQ,hlen]at hj;simpa using hj)];have e:aaF l++ [Value.int .u8 (u.toNat:Int)]=aaF (l++ [u]) :=by simp[aaF]
     rw[e];exact bytes_at (l++ [u]) j hj
    have hcv:=hbs.text (m+1) cap' (by rw[aaQ,hlen];rfl);have HR:Hid (bV w3 b (.slice ao n cap) a2 mR∧w.grownBy w3 (some b)) :=by refine⟨?_,bR (bR HG2.out HA.out) ⟨hgw.os,hgw.tape,hgw.output,hgw.size,fun k hk _=>hgw.block k hk (by simp)⟩⟩;have h:=HS2.out.alloc (.cells #[.int .u8 (u.toNat:Int)] 5);unfold bV at h⊢;rw[hgw.block b (Array.getElem?_eq_some_iff.1 h).1 (by simp)];exact h
    clear hbs hown hgw HS2 HG2 HB2 lq cZ HA;exact afX
 ·have hxz:(x==0)=false:=beq_eq_false_iff_ne.2 hx;by_cases ahN:x=1
  ·subst ahN;by_cases hm0:0<m
   ·have hmz:(0:Int)<(m:Int) :=by omega
    go_wp2_with fail;refine(lF b ao n cap a1 yf (m:Int) _ hn (by omega) (by omega) (by omega) (by omega) hd0 hd1 pU.out (HC.out.kept xL.out)).mono ?_;rintro e w2⟨y,a2,mR,rfl,hy0,hy1,FC,Fg,hd2,hd3,hs2,hg2⟩;obtain⟨k,rfl⟩ :=abw hy0;have hkm:k≤m:=by omega
    have hkb:k≤bc:=by omega
    have hcv:=((HB1.out.kept hg2 hgb).take k).text k bc (by rw[abt];omega);have HR:=ah (aaR hs2 (bR xL.out hg2));have hsz2:(l.take k).length≤m+1:=by rw[abt];omega
    clear hs2 hg2 pU xL HB1 bY;go_wp2;go_ret;unfold rC;exact⟨⟨(l.take k).toArray⟩,a2,mR,rfl,by rw[size_mk,Hm.out];exact hsz2,by omega,by omega,hd2,hd3,HR.out.1,HR.out.2⟩
   ·exact acO
  ·have asu:(x==1)=false:=beq_eq_false_iff_ne.2 ahN;by_cases hm0:0<m
   ·have hmz:(0:Int)<(m:Int) :=by omega
    go_wp2_with fail;refine(lF b ao n cap a1 yf (m:Int) _ hn (by omega) (by omega) (by omega) (by omega) hd0 hd1 pU.out (HC.out.kept xL.out)).mono ?_;rintro e w2⟨y,a2,mR,rfl,hy0,hy1,FC,Fg,hd2,hd3,hs2,hg2⟩;obtain⟨k,rfl⟩ :=abw hy0;have HS2:=ah hs2;have HG2:=ah (bR xL.out hg2);have HB2:=ah (HB1.out.kept hg2 hgb);have cZ:Hid (w2.frozen? ⟨g,k,none⟩=false) :=by have hblk:w2.heap[g]?=w1.heap[g]?:=hg2.block g hgl (by simpa using hgb);show _=_;rw[show w2.frozen? ⟨g,k,none⟩=w1.frozen? ⟨g,k,none⟩from aaY hblk];exact(bY.out k (by omega)).2
    have Mo:g<w2.heap.size:=by have:=hg2.size;omega
    clear hs2 hg2 pU xL HB1 bY;go_wp2_with fail;refine(sF b ao n cap a2 mR _ hn (by omega) (by omega) hd2 hd3 HS2.out (HC.out.kept HG2.out)).mono ?_;rintro e w3⟨z,a3,Og,rfl,hz0',hz1',NV,ha8,hd4,hd5,hs3,hg3⟩;obtain⟨u,hu⟩ :=ZF z hz0' hz1';have fJ:=ah hs3;have RD:=ah (bR HG2.out hg3);have HB3:=ah (HB2.out.kept hg3 hgb);have hkm:k<m:=by omega
    have hkl:k<l.length:=by omega
    have q1:w3.cell? ⟨g,k,none⟩=some (.int .u8 (l[k].toNat:Int)) :=HB3.out k hkl;have q2:w3.frozen? ⟨g,k,none⟩=false:=by have hblk:w3.heap[g]?=w2.heap[g]?:=hg3.block g Mo (by simpa using hgb);rw[show w3.frozen? ⟨g,k,none⟩=w2.frozen? ⟨g,k,none⟩from aaY hblk];exact cZ.out
    have Qy:g<w3.heap.size:=by have:=hg3.size;omega
    clear hs3 hg3 HS2 HG2 HB2 cZ;subst hu;have hkz:(k:Int)<(m:Int) :=by omega
    have hbs:=BytesAt.set HB3.out Qy k hkl u;have hcv:=hbs.text m bc (by rw[abf];exact hlen);have HR:=ah (aaR (fJ.out.other g k (.int .u8 (u.toNat:Int)) hgb) (Gx RD.out k (.int .u8 (u.toNat:Int)) (by rw[Hgw.out];exact aax _)));clear hbs fJ RD HB3;go_wp2;go_ret;unfold rC;exact⟨⟨(l.set k u).toArray⟩,a3,Og,rfl,by rw[size_mk,abf,Hm.out];omega,by omega,by omega,hd4,hd5,HR.out.1,HR.out.2⟩
   ·exact acO
theorem Ar(t:ByteArray)(N:Nat)(w:aaa)(ht:t.size≤16)(hN:N≤100000) :aau Tryd.prog 21 #[.string t,.int .i64 (N:Int)] w fun e w'=>∃r:ByteArray,e= .returned (.string r)∧r.size≤t.size*N∧aar w.heap.size w w':=by
 obtain⟨i0,hi,hz0,hz1,hz2⟩ :=info_parts Tryd.info5;go_enter Tryd.func21,Tryd.ntmps21;go_wp2;go_loopw [5,6](fun v i wr=>∃(k:Nat)(L:List UInt8),k≤N∧i= .int .i64 (k:Int)∧L.length≤t.size*k∧wr.ownsRow w.heap.size 5 1 v L.length (aaF L)∧aar w.heap.size w wr∧v≠ .slice none 0 0)(fun _ i _=>N-(intOf i).toNat);case atStart=>exact⟨0,[],abp _,rfl,by simp,gF w _,(aaT _ _).alloc (aax _) _,by simp⟩
 case round=>
  obtain⟨k,L,hk,rfl,hL,hown,hbel,hnn⟩ :=hrel;have hL2:L.length≤16*k:=aas hL (Nat.mul_le_mul_right k ht);have HL:=ah hL;clear hL;have HO:=ah hown;have HB:=ah hbel;have x9:=hbel.size;by_cases hlt:k<N
  ·clear hown hbel;go_wp2_with(at_builtin;refine Lib.wpList_append_own_string _ rfl _ _ 22 9 rfl w.heap.size 5 i0 Tryd.underlying22 Tryd.underlying9 hi hz0 hz1 hz2 _ _ _ rfl HO.out t rfl ?c1 ?c2 x9 ?_);case c1=>unfold maxLen;omega
   case c2=>omega
   intro v' w2 hown' hgrow hne;have R:Hid (w2.ownsRow w.heap.size 5 1 v' (L++t.data.toList).length (aaF (L++t.data.toList))∧aar w.heap.size w w2) :=by refine⟨?_,HB.out.grown hgrow x9 (fF HO.out)⟩;rw[aaQ,←abl,Lib.byteCells_append];exact hown'
   have hne':Hid (v'≠ .slice none 0 0) :=hne;clear hown' hgrow hne;go_wp2;go_roundw;case rel=>exact⟨k+1,L++t.data.toList,by omega,by go_num,by rw[aaQ,←abl,Nat.mul_succ];exact Nat.add_le_add_right HL.out _,R.out.1,R.out.2,hne'.out⟩
   case measure=>simp[intOf];omega
  ·rcases bH hown with⟨rfl,h0⟩| ⟨g,cap,rfl,hbg,hgl⟩;·exact absurd rfl hnn
   ·have hbs:BytesAt wr g L:=fun j hj=>by rw[hown.cellAt j (by omega)];exact bytes_at L j hj
    have hcv:=hbs.text L.length cap rfl;clear hbs hown hbel;go_wp2;go_ret;exact⟨⟨L.toArray⟩,rfl,by rw[size_mk];exact aas HL.out (Nat.mul_le_mul_left _ hk),HB.out⟩
theorem GQ(ao:Option aap)(n cap:Nat)(w:aaa)(hn:n≤1048576) :aau Tryd.prog 19 #[.slice ao n cap] w fun e w'=>e= .returned (.pointer (some ⟨w.heap.size,0,none⟩))∧bV w' w.heap.size (.slice ao n cap) 0 ((n:Int) %1000)∧w.grownBy w' none:=by go_enter Tryd.func19,Tryd.ntmps19;go_wp2;go_ret;exact⟨rfl,aa8 w _,aa9 w _ none⟩
def CodeIn(w:aaa)(ao:Option aap)(n:Nat) :Prop:=∀j,j<n→∃blk off z,ao=some ⟨blk,off,none⟩∧blk<w.heap.size∧0≤z∧z≤255∧w.cell? ⟨blk,off+j,none⟩=some (.int .u8 z)
theorem CodeIn.below {w w':aaa} {ao:Option aap} {n:Nat}(h:CodeIn w ao n)(hb:aar w.heap.size w w') :CodeIn w' ao n:=fun j hj=>by obtain⟨blk,off,z,h1,h2,h3,h4,h5⟩ :=h j hj;exact⟨blk,off,z,h1,Nat.lt_of_lt_of_le h2 hb.size,h3,h4,by rw[hb.cell (p:=⟨blk,off+j,none⟩) h2];exact h5⟩
structure Sr(m0 b:Nat)(ao:Option aap)(n cap:Nat)(a:Int)(W:aaa) :Prop where
 src: ∃sd,0≤sd∧sd<2147483648∧bV W b (.slice ao n cap) a sd
 code: ∀j,j<n→∃blk off z,ao=some ⟨blk,off,none⟩∧blk<m0∧0≤z∧z≤255∧W.cell? ⟨blk,off+j,none⟩=some (.int .u8 z)
 lo:0≤a
 mb:m0≤b
section
variable {m0 b:Nat} {ao:Option aap} {n cap:Nat} {a:Int} {W W':aaa}
theorem Sr.lt(h:Sr m0 b ao n cap a W) :b<W.heap.size:=by obtain⟨sd,_,_,h⟩ :=h.src;exact h.lt
theorem Sr.box(h:Sr m0 b ao n cap a W) : ∃cs,W.heap[b]?=some (.cells cs 78) :=by obtain⟨sd,_,_,h⟩ :=h.src;exact⟨_,h⟩
theorem Sr.codes(h:Sr m0 b ao n cap a W) :Code W b ao n:=fun j hj=>by obtain⟨blk,off,z,h1,h2,h3,h4,h5⟩ :=h.code j hj;exact⟨blk,off,z,h1,by have:=h.mb;omega,h3,h4,h5⟩
theorem Sr.keep {X:Nat→Prop}(h:Sr m0 b ao n cap a W)(hb:But X W W')(hx: ∀x,X x→m0≤x∧x≠b) :Sr m0 b ao n cap a W':=by obtain⟨sd,h1,h2,h3⟩ :=h.src;have hlt:=h3.lt;refine⟨⟨sd,h1,h2,(hb.block b hlt (fun e=>(hx b e).2 rfl)).trans h3⟩,fun j hj=> ?_,h.lo,h.mb⟩;obtain⟨blk,off,z,k1,k2,k3,k4,k5⟩ :=h.code j hj;exact⟨blk,off,z,k1,k2,k3,k4,(hb.cell (p:=⟨blk,off+j,none⟩) (by have:=h.mb;have e2:blk<m0:=k2;show blk<W.heap.size;omega) (fun e=>by have h9:m0≤blk:=(hx _ e).1;omega)).trans k5⟩
theorem Sr.below(h:Sr m0 b ao n cap a W)(hb:aar W.heap.size W W') :Sr m0 b ao n cap a W':=h.keep (But.of_below (X:=fun _=>False) hb) fun x hx=>hx.elim
theorem But.Ep {w w':aaa} {b:Nat}(h:w.grownBy w' (some b)) :But (fun x=>x=b) w w':=⟨h.os,h.tape,h.output,by have:=h.size;simpa using this,fun x hx hn=>h.block x hx (fun e=>hn (by simpa using e))⟩
theorem Sr.moved(h:Sr m0 b ao n cap a W) {a' sd:Int}(hg:W.grownBy W' (some b))(hs:bV W' b (.slice ao n cap) a' sd)(h0:0≤sd)(h1:sd<2147483648)(ha:a≤a') :Sr m0 b ao n cap a' W':=by refine⟨⟨sd,h0,h1,hs⟩,fun j hj=> ?_,by have:=h.lo;omega,h.mb⟩;obtain⟨blk,off,z,k1,k2,k3,k4,k5⟩ :=h.code j hj;exact⟨blk,off,z,k1,k2,k3,k4,hg.cell k5 (by have:=h.mb;have e2:blk<m0:=k2;simp;omega)⟩
theorem Sr.next(h:Sr m0 b ao n cap a W)(hn:n≤1048576)(ha:a≤1000000)(m:Int)(hm:1≤m)(hm2:m≤16777216) :aau Tryd.prog 22 #[.pointer (some ⟨b,0,none⟩),.int .i64 m] W fun e W'=>∃(k:Nat)(a':Int),e= .returned (.int .i64 (k:Int))∧(k:Int)<m∧a'≤a+3∧Sr m0 b ao n cap a' W'∧But (fun x=>x=b) W W':=by obtain⟨sd,h1,h2,h3⟩ :=h.src;refine(lF b ao n cap a sd m W hn hm hm2 h.lo (by omega) h1 h2 h3 h.codes).mono ?_;rintro e w2⟨x,a2,mR,rfl,hx0,hx1,ha1,ha2,hd0,hd1,hs,hg⟩;obtain⟨k,rfl⟩ : ∃k:Nat,x=(k:Int) :=⟨x.toNat,by omega⟩;exact⟨k,a2,rfl,by omega,ha2,h.moved hg hs hd0 hd1 ha1,But.Ep hg⟩
theorem Sr.zm(h:Sr m0 b ao n cap a W)(hn:n≤1048576)(ha:a≤1000000)(m:Int)(hm:1≤m)(hm2:m≤16777216) :aau Tryd.prog 20 #[.pointer (some ⟨b,0,none⟩),.int .i64 m] W fun e W'=>∃(f:Bool)(a':Int),e= .returned (.bool f)∧a'≤a+3∧Sr m0 b ao n cap a' W'∧But (fun x=>x=b) W W':=by obtain⟨sd,h1,h2,h3⟩ :=h.src;refine(Q6 b ao n cap a sd m W hn hm hm2 h.lo (by omega) h1 h2 h3 h.codes).mono ?_;rintro e w2⟨x,a2,mR,rfl,ha1,ha2,hd0,hd1,hs,hg⟩;exact⟨x,a2,rfl,ha2,h.moved hg hs hd0 hd1 ha1,But.Ep hg⟩
end
theorem Sr.start {w w1:aaa} {ao:Option aap} {n cap:Nat}(hc:CodeIn w ao n)(hs:bV w1 w.heap.size (.slice ao n cap) 0 ((n:Int) %1000))(hg:w.grownBy w1 none) :Sr w.heap.size w.heap.size ao n cap 0 w1:=by refine⟨⟨_,aa3 _ (by omega),by have:=aa4 (n:Int) (by omega:(0:Int)<1000);omega,hs⟩,fun j hj=> ?_,Int.le_refl _,aax _⟩;obtain⟨blk,off,z,h1,h2,h3,h4,h5⟩ :=hc j hj;exact⟨blk,off,z,h1,h2,h3,h4,hg.cell h5 (by simp)⟩
structure eu(N K:Nat)(D:List aT) :Prop where
 len:D.length≤N
 aR: ∀s∈D,s.2.1.length≤K
 low: ∀s∈D,∀a∈s.2.1,a.1<128∨ig a.1=false
theorem eu.nil(N K:Nat) :eu N K [] :=⟨abp _,fun s hs=>by simp at hs,fun s hs=>by simp at hs⟩
theorem eu.mono {N K N' K':Nat} {D:List aT}(h:eu N K D)(hN:N≤N')(hK:K≤K') :eu N' K' D:=⟨aas h.len hN,fun s hs=>aas (h.aR s hs) hK,h.low⟩
theorem eu.EM {N K:Nat} {D:List aT}(h:eu N K D)(hK:K≤128)(hV:bP D) :qJ D:=by intro s hs;obtain⟨⟨h1,h2,_⟩,_,_⟩ :=hV.2.2 s hs;refine⟨h1,fun a ha=> ?_,aas (h.aR s hs) hK⟩;obtain⟨h4,h5,h6⟩ :=h2 a ha;have h7:=h.low s hs a ha;rw[h4]at h7;have h8:=(jH a.1).1 h4;have h9:=hV.2.1;refine⟨⟨h8.1,by rcases h7 with h7|h7;exact h7;exact absurd h7 (by decide)⟩,h5,by omega⟩
theorem zw {X:Type} [DecidableEq X] {T:Sys X} {m:Nat} {ls:List Int} {r:X} {D:List aT}(h:T.dx m ls r D) : ∀s∈D,s.2.1.length≤m∧∀a∈s.2.1,∃k,k<m∧a.1=ls.getD k 0:=by
 obtain⟨o,_,rfl⟩ :=h;intro s hs;obtain⟨K,_,rfl⟩ :=List.mem_map.1 hs;refine⟨?_,fun a ha=> ?_⟩;·show((T.told m K).map _).length≤m;exact Zf
 ·obtain⟨k,hk,rfl⟩ :=List.mem_map.1 (show a∈(T.told m K).map fun k=>(ls.getD k 0,T.num o (T.aZ K k))from ha);exact⟨k,List.mem_range.1 (List.mem_filter.1 hk).1,rfl⟩
theorem eu.least {m:Nat} {ls:List Int} {L:jA} {D:List aT}(h:bS.dx m ls L D)(hm:ls.length=m)(hl:D.length≤256)(h31:ls.length≤31)(h128: ∀r∈ls,r<128) :eu 256 31 D:=by refine⟨hl,fun s hs=>by have:=(zw h s hs).1;omega,fun s hs a ha=> ?_⟩;obtain⟨k,hk,e⟩ :=(zw h s hs).2 a ha;refine aav ?_;rw[e,aaA,aaE (by omega)];exact h128 _ (abu _)
theorem bq.vals {W:aaa} {base:Nat} {v:aab} {l:List dK}(h:bq W base v l) : ∃a c,v= .slice a l.length c:=by
 rcases h.row.2 with⟨h,h0⟩| ⟨g7,c7,wm,h,_⟩;·exact⟨none,0,by rw[h,h0]⟩
 ·exact⟨_,c7,h⟩
structure Et(ls:List Int) :Prop where
 lets:Lets ls
 top: ∀r∈ls,r<128
theorem Et.len {ls:List Int}(h:Et ls) :ls.length≤128:=by
 have h1: ∀(n:Nat)(l:List Int),iG l→(∀r∈l,(n:Int)≤r∧r<128)→l.length+n≤128∨l= [] :=by
  intro n l;induction l generalizing n with
  |nil=>intro _ _;exact aat rfl
  |cons r l ih=>
   intro hr hb;have h2:=hb r (List.mem_cons_self ..);have h3:=List.pairwise_cons.1 hr;refine aav ?_;rcases ih (n+1) h3.2 (fun x hx=>by have:=h3.1 x hx;have:=(hb x (List.mem_cons_of_mem _ hx)).2;omega)with h4|h4;·simp;omega
   ·subst h4;simp;omega
 rcases h1 0 ls h.lets.rise (fun r hr=>⟨h.lets.pos r hr,h.top r hr⟩)with h2|h2;·omega
 ·rw[h2];decide
theorem Et.ig {ls:List Int}(h:Et ls) {r:Int}(hr:r∈ls) :ig r=true:=(jH r).2 ⟨h.lets.pos r hr,by have:=h.top r hr;omega,by have:=h.top r hr;omega⟩
theorem Jq {ls:List Int} {F:eU} {D:List aT}(hl:Et ls)(h:jg ls F D)(hd:D.length≤256) :bP D:=by
 have hlen:=hl.len;obtain⟨o,h1,rfl⟩ :=h;have hroot:lQ ls F∈o:=List.mem_of_getElem? h1.head;have mG: ∀K∈o,∀a,a≤ls.length→ -1≤bS.num o (kL K a)∧bS.num o (kL K a)<(o.length:Int) :=by
  intro K hK a ha;have hpos:=abE hK;unfold Sys.num;by_cases he:kL K a=bM;·rw[if_pos (by simp[bS,he])];omega
  ·rw[if_neg (by simp[bS,he])];have:=lM (h1.closed K hK _ (IZ ha he));omega
 rw[aaL]at hd;refine⟨by rw[aaL];exact abE hroot,by rw[aaL];exact hd,fun s hs=> ?_⟩;obtain⟨K,hK,rfl⟩ :=List.mem_map.1 hs;rw[aaL];refine⟨⟨?_,fun a ha=> ?_,?_⟩,(mG K hK _ (aax _)).1,(mG K hK _ (aax _)).2⟩
 ·show((bS.told ls.length K).map fun k=>(ls.getD k 0,bS.num o (bS.aZ K k))).Pairwise _;rw[List.pairwise_map];have hr:(bS.told ls.length K).Pairwise fun x y=>x<y∧y<ls.length:=by refine acA _ ?_;refine(List.pairwise_lt_range).imp_of_mem ?_;intro x y _ hy hxy;exact⟨hxy,List.mem_range.1 hy⟩
  refine hr.imp fun{x y}hxy=> ?_;show ls.getD x 0<ls.getD y 0;rw[aaA,aaA,aaE (by omega),aaE hxy.2];exact List.pairwise_iff_getElem.1 hl.lets.rise x y (by omega) hxy.2 hxy.1
 ·obtain⟨k,hk,rfl⟩ :=List.mem_map.1 (show a∈(bS.told ls.length K).map fun k=>(ls.getD k 0,bS.num o (bS.aZ K k))from ha);have hk2:=List.mem_range.1 (List.mem_filter.1 hk).1;refine⟨hl.ig (by rw[aaA,aaE hk2];exact abu _),(mG K hK k (by omega)).1,(mG K hK k (by omega)).2⟩
 ·show((bS.told ls.length K).map _).length≤1048576;rw[aaL];have:=List.length_filter_le (fun k=>decide (bS.aZ K k≠bS.aZ K ls.length)) (List.range ls.length);rw[List.length_range]at this;exact aas this (by omega)
structure dI(D:List aT) :Prop where
 aR: ∀s∈D,s.2.1.length≤4096
 len:D.length≤1048576
 EM:bP D→qJ D
 top:bP D→∀r∈bE D,r<128
theorem dI.drawn {D:List aT}(h:eu 258 32 D) :dI D:=⟨fun s hs=>aas (h.aR s hs) (by decide),aas h.len (by decide),fun hV=>h.EM (by decide) hV,fun hV r hr=>by obtain⟨s,hs,a,ha,rfl⟩ :=iU.1 hr;exact((h.EM (by decide) hV) s hs).2.1 a ha |>.1.2⟩
theorem dI.least {ls:List Int} {F:eU} {D:List aT}(hl:Et ls)(h:jg ls F D)(hd:D.length≤256) :dI D:=by
 have hlen:=hl.len;have hV:=Jq hl h hd;have hA:=zw h;have hm: ∀s∈D,∀a∈s.2.1,a.1∈ls:=fun s hs a ha=>by obtain⟨k,hk,e⟩ :=(hA s hs).2 a ha;rw[e,aaA,aaE hk];exact abu _
 refine⟨fun s hs=>aas (hA s hs).1 (by omega),by omega,fun _ s hs=> ?_,fun _ r hr=> ?_⟩;·obtain⟨⟨h1,h2,_⟩,_,_⟩ :=hV.2.2 s hs;refine⟨h1,fun a ha=> ?_,aas (hA s hs).1 hlen⟩;obtain⟨_,h5,h6⟩ :=h2 a ha;exact⟨⟨hl.lets.pos _ (hm s hs a ha),hl.top _ (hm s hs a ha)⟩,h5,by omega⟩
 ·obtain⟨s,hs,a,ha,rfl⟩ :=iU.1 hr;exact hl.top _ (hm s hs a ha)
theorem dI.nil:dI [] :=⟨fun s hs=>by simp at hs,by decide,fun h=>absurd h.1 (by decide),fun h=>absurd h.1 (by decide)⟩
theorem kD.low {A B:List aT} {ls:List Int}(h:kD A B ls)(hA:dI A)(hB:dI B)(vA:bP A)(vB:bP B) :Et ls:=⟨h.1,fun r hr=>by
 rcases List.mem_append.1 ((h.2 r).1 hr)with h1|h1;·exact hA.top vA r h1
 ·exact hB.top vB r h1⟩
def uw(A B:List aT)(op:Bool→Bool→Bool)(C:Int)(D:List aT) :Prop:=(¬(bP A∧bP B)∧C=1∧D= [])∨(bP A∧bP B∧1024<A.length*B.length∧C=12∧D= [])∨(bP A∧bP B∧A.length*B.length≤1024∧∃ls,kD A B ls∧((C=11∧D= []∧∀L,jg ls (kr A B op) L→256<L.length)∨(C=0∧jg ls (kr A B op) D∧D.length≤256)))
theorem uw.uniq {A B:List aT} {op:Bool→Bool→Bool} {C C':Int} {D D':List aT}(h:uw A B op C D)(k:uw A B op C' D') :C=C'∧D=D':=by
 rcases h with⟨h1,rfl,rfl⟩| ⟨a,b,h1,rfl,rfl⟩| ⟨a,b,h1,ls,hl,h⟩
 ·rcases k with⟨_,rfl,rfl⟩| ⟨a',b',_⟩| ⟨a',b',_⟩;·exact⟨rfl,rfl⟩
  ·exact absurd ⟨a',b'⟩ h1
  ·exact absurd ⟨a',b'⟩ h1
 ·rcases k with⟨k1,_⟩| ⟨_,_,_,rfl,rfl⟩| ⟨_,_,k1,_⟩;·exact absurd ⟨a,b⟩ k1
  ·exact⟨rfl,rfl⟩
  ·omega
 ·rcases k with⟨k1,_⟩| ⟨_,_,k1,_⟩| ⟨_,_,_,ms,km,k⟩;·exact absurd ⟨a,b⟩ k1
  ·omega
  ·obtain rfl:=hl.uniq km;rcases h with⟨rfl,rfl,h2⟩| ⟨rfl,h2,h3⟩
   ·rcases k with⟨rfl,rfl,_⟩| ⟨rfl,k2,k3⟩;·exact⟨rfl,rfl⟩
    ·have:=h2 _ k2;omega
   ·rcases k with⟨rfl,rfl,k2⟩| ⟨rfl,k2,k3⟩;·have:=k2 _ h2;omega
    ·exact⟨rfl,jg.uniq hl.1 hl.1 (hl.resp a b op) (hl.resp a b op) h2 k2⟩
theorem uw.low {A B:List aT} {op:Bool→Bool→Bool} {C:Int} {D:List aT}(h:uw A B op C D)(hA:dI A)(hB:dI B) :dI D:=by
 rcases h with⟨_,_,rfl⟩| ⟨_,_,_,_,rfl⟩| ⟨a,b,_,ls,hl,⟨_,rfl,_⟩| ⟨_,h2,h3⟩⟩;·exact dI.nil
 ·exact dI.nil
 ·exact dI.nil
 ·exact dI.least (hl.low hA hB a b) h2 h3
theorem uw.good {A B:List aT} {op:Bool→Bool→Bool} {D:List aT}(h:uw A B op 0 D)(hA:dI A)(hB:dI B) :bP A∧bP B∧bP D∧iF D=kr A B op∧∃ls,kD A B ls∧jg ls (kr A B op) D:=by
 rcases h with⟨_,h,_⟩| ⟨_,_,_,h,_⟩| ⟨a,b,_,ls,hl,⟨h,_⟩| ⟨_,h2,h3⟩⟩;·cases h
 ·cases h
 ·cases h
 ·exact⟨a,b,Jq (hl.low hA hB a b) h2 h3,jg.run hl.1 (hl.resp a b op) h2,ls,hl,h2⟩
theorem jI.res {A B:List aT} {op:Bool→Bool→Bool} {w w':aaa} {e:aa5}(h:jI A B op w e w') : ∃a c C D,e= .returned (.tuple #[.agg #[.slice a (List.length D) c],.int .i64 C])∧uw A B op C D∧dP w' a D∧aar w.heap.size w w':=by
 obtain⟨hb,⟨h1,rfl⟩| ⟨a,b,h1,rfl⟩| ⟨a,b,h1,ls,hl,⟨rfl,h2⟩| ⟨v,l,h2,h3,rfl,h4⟩⟩⟩ :=h;·exact⟨none,0,1,[],rfl,aav ⟨h1,rfl,rfl⟩,aav rfl,hb⟩
 ·exact⟨none,0,12,[],rfl,aat (aav ⟨a,b,h1,rfl,rfl⟩),aav rfl,hb⟩
 ·exact⟨none,0,11,[],rfl,aat (aat ⟨a,b,h1,ls,hl,aav ⟨rfl,rfl,h2⟩⟩),aav rfl,hb⟩
 ·obtain⟨a1,c1,rfl,hh⟩ :=h4.hds;exact⟨a1,c1,0,_,rfl,aat (aat ⟨a,b,h1,ls,hl,aat ⟨rfl,h2,by rw[aaL];exact h3⟩⟩),hh,hb⟩
theorem dI.all:dI mq:=⟨fun s hs=>by rw[List.mem_singleton.1 hs];decide,by decide,fun _ s hs=>by rw[List.mem_singleton.1 hs];exact⟨abk,fun a ha=>by simp at ha,by decide⟩,fun _ r hr=>by obtain⟨s,hs,a,ha,_⟩ :=iU.1 hr;rw[List.mem_singleton.1 hs]at ha;simp at ha⟩
theorem RZ {A S Cm Bk:List aT}(hA:dI A)(h1:uw A A (fun x y=>x&&y) 0 S)(h2:uw A mq (fun x _=> !x) 0 Cm)(h3:uw Cm mq (fun x _=> !x) 0 Bk) :S=Bk:=by
 obtain⟨vA,_,_,_,ls,hl,d1⟩ :=h1.good hA hA;obtain⟨_,vT,vC,r2,_⟩ :=h2.good hA dI.all;obtain⟨_,_,_,_,ms,hm,d3⟩ :=h3.good (h2.low hA dI.all) dI.all;have e:kr Cm mq (fun x _=> !x)=kr A A (fun x y=>x&&y) :=by funext w;show(!(iF Cm w))=(iF A w&&iF A w);rw[r2];show(!(!(iF A w)))=_;cases iF A w<;>rfl
 have hr:=hm.resp vC vT (fun x _=> !x);rw[e]at d3 hr;exact jg.uniq hl.1 hm.1 (hl.resp vA vA _) hr d1 d3
theorem acu {A B M One Cm Ot Two:List aT} {C:Int}(hA:dI A)(hB:dI B)(h1:uw A B (fun x y=>x&&y) 0 M)(h2:uw M mq (fun x _=> !x) 0 One)(h3:uw A mq (fun x _=> !x) 0 Cm)(h4:uw B mq (fun x _=> !x) 0 Ot)(hp:Cm.length*Ot.length≤1024)(h5:uw Cm Ot (fun x y=>x ||y) C Two) :C=0∧One=Two:=by
 obtain⟨vA,vB,vM,r1,_⟩ :=h1.good hA hB;obtain⟨_,vT,vO,_,ls,hl,d2⟩ :=h2.good (h1.low hA hB) dI.all;obtain⟨_,_,vC,r3,_⟩ :=h3.good hA dI.all;obtain⟨_,_,vU,r4,_⟩ :=h4.good hB dI.all;have e:kr Cm Ot (fun x y=>x ||y)=kr M mq (fun x _=> !x) :=by funext w;show(iF Cm w ||iF Ot w)=(!(iF M w));rw[r1,r3,r4];show((!(iF A w))|| (!(iF B w)))=(!(iF A w&&iF B w));cases iF A w<;>cases iF B w<;>rfl
 rcases h5 with⟨h,_⟩| ⟨_,_,h,_⟩| ⟨_,_,_,ms,hm,h⟩;·exact absurd ⟨vC,vU⟩ h
 ·omega
 ·have hr:=hm.resp vC vU (fun x y=>x ||y);rw[e]at hr h;rcases h with⟨_,_,h⟩| ⟨h0,d5,_⟩;·have:=h _ (jg.move hl.1 hm.1 (hl.resp vM vT _) hr d2);have:=vO.2.1;omega
  ·exact⟨h0,jg.uniq hl.1 hm.1 (hl.resp vM vT _) hr d2 d5⟩
end Go.Proofs.YtkbjimkngmlfcaaDoor
