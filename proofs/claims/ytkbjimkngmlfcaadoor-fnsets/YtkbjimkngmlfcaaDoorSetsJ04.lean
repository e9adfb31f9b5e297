import Derived.Test.YtkbjimkngmlfcaaDoorSetsJ03
namespace Go.Proofs.YtkbjimkngmlfcaaDoor
open Go Go.RowKit
open Classical renaming byContradiction→aa8
open Go renaming World→aaa,execOp→aal
open Go.IntWalk renaming i64_in→aat
open List renaming mem_of_getElem?→aaY,getD_eq_getElem?_getD→aah,getElem?_append_left→aav,getElem?_eq_getElem→aaQ,idxOf_eq_length→aa4,map_cons→aab,map_map→aau,map_congr_left→aas,range→aaL,mem_filter→aa1,map_id→aa3,foldl_cons→aaw,getElem?_eq_none→aa7,getElem?_set→aa5
open Nat renaming mul_comm→aaR,mul_add_div→aaU,mul_add_mod→aaT,div_eq_of_lt→aaK,mod_eq_of_lt→aaF,le_refl→aaV
set_option linter.unusedVariables false
set_option linter.unusedSimpArgs false
set_option maxRecDepth 100000
set_option maxHeartbeats 4000000
theorem adM {P:Prop}(h:P:=by
 clear hv TY;go_wp2;go_region_law(refine step_append_lies _ rfl (.tmp 40) (.tmp 56) 56 rfl w.heap.size 3 i0 (.int .i64 0) 1 8 Tryd.underlying56 hi hz0 hz1 hz2 rfl (by decide) (.slice (some ⟨gn,0,none⟩) j cn) j (zI (rG j nw)) (by simp[Act.eval]) (HO.out.drew.alloc _) ⟨wr.heap.size,0,none⟩ 1 1 [.int .i64 d3] (by simp[Act.eval]) rfl (by intro j' u' hj';match j',hj' with|0,hj'=>simp at hj';subst hj';simp[Addr.add]) (by intro u' hu';simp at hu';subst hu';rfl) (by omega) (by unfold maxLen;omega) (by omega) (by simp;omega) _ rfl ?_;intro g6 pG w6 hown6 fE mY EB);all_goals
  have R6:=ah (HF.out w6 g6 pG (ah hown6) (ah (((below_drewN fP.out 1).alloc (by simpa using hzx) _).grown fE (by simp;omega) (fun m hm=>by cases hm;omega))));clear hown6 fE mY EB;go_wp2;go_roundw;·exact⟨j+1,by omega,by omega,by go_num,R6.out.1,R6.out.2⟩
  ·simp[intOf];omega) :P:=h
theorem aay {P:Prop}(h:P:=by
 have h4:0≤dst hit i:=by unfold dst;split<;>omega
 simp only[jd];omega) :P:=h
theorem qZ(W:aaa)(a:Act)(o:Oper)(f:FuncId)(x y z:Operand)(t1 t2 t3:TypeId)(ho:o.op= .call {callee:= .value (.func f),args:=#[x,y,z],argTypes:=#[t1,t2,t3]})(u v r:Value)(hx:a.eval x=u)(hy:a.eval y=v)(hz:a.eval z=r)(hf:(callFunc f #[u,v,r]).run Tryd.prog W= .ok (.enter f #[u,v,r]) W) :(aal a.eval o).run Tryd.prog W= .ok (.enter f #[u,v,r]) W:=by have hfn:a.eval (.func f)= .func (.func f) #[] #[] :=rfl;unfold aal;simp[ho,resolve,invoke,Deferred.ofValue,hfn,hx,hy,hz,hf]
def lV(A B:List aT)(op:Bool→Bool→Bool)(sm:List Int) :bN (Int×Int) :=⟨fun z j=>(bu A z.1 (sm.getD j 0),bu B z.2 (sm.getD j 0)),fun z=>op (fK A z.1) (fK B z.2)⟩
def lu(A B:List aT)(z:Int×Int) :Prop:=(-1≤z.1∧z.1<A.length)∧ -1≤z.2∧z.2<B.length
theorem su {D:List aT}(hV:bP D)(z r:Int) : -1≤bu D z r∧bu D z r<D.length:=by
 have h0:=hV.1;unfold bu;split;·omega
 ·split;·omega
  ·rename_i s hs;obtain⟨⟨_,h2,_⟩,h3,h4⟩ :=hV.2.2 s (aaY hs);split;·rename_i a ha;have:=h2 a (List.mem_of_find?_eq_some ha);omega
   ·omega
theorem L6 {A B:List aT}(hA:bP A)(hB:bP B)(op:Bool→Bool→Bool)(sm:List Int)(z:Int×Int)(j:Nat) :lu A B ((lV A B op sm).step z j) :=⟨su hA _ _,su hB _ _⟩
def mP(nb:Nat)(p:Int×Int) :Nat:=(p.1+1).toNat*(nb+1)+(p.2+1).toNat
theorem wu {A B:List aT} {p:Int×Int}(h:lu A B p) :mP B.length p<(A.length+1)*(B.length+1) :=by
 obtain⟨⟨h1,h2⟩,h3,h4⟩ :=h;unfold mP;have e1:(p.1+1).toNat≤A.length:=by omega
 have e2:=Nat.mul_le_mul_right (B.length+1) e1;rw[Nat.add_mul];omega
theorem Js {A B:List aT} {p q:Int×Int}(h:lu A B p)(k:lu A B q)(e:mP B.length p=mP B.length q) :p=q:=by
 obtain⟨⟨h1,h2⟩,h3,h4⟩ :=h;obtain⟨⟨k1,k2⟩,k3,k4⟩ :=k;unfold mP at e;have l1:(p.2+1).toNat<B.length+1:=by omega
 have l2:(q.2+1).toNat<B.length+1:=by omega
 have d1:=congrArg (· /(B.length+1)) e;have d2:=congrArg (· % (B.length+1)) e;simp only[aaR _ (B.length+1),aaU (show B.length+1>0 by omega),aaT,aaK l1,aaK l2,aaF l1,aaF l2]at d1 d2;exact Prod.ext (by omega) (by omega)
def X0(nb c:Nat) :Int×Int:=((c/(nb+1) :Nat)-1,(c % (nb+1) :Nat)-1)
theorem Si {A B:List aT} {p:Int×Int}(h:lu A B p) :X0 B.length (mP B.length p)=p:=by
 obtain⟨⟨h1,h2⟩,h3,h4⟩ :=h;unfold X0 mP;have l1:(p.2+1).toNat<B.length+1:=by omega
 simp only[aaR _ (B.length+1),aaU (show B.length+1>0 by omega),aaT,aaK l1,aaF l1];exact Prod.ext (by simp;omega) (by simp;omega)
theorem xz {A B:List aT} {Z:List (Int×Int)}(hn:Z.Nodup)(h: ∀z∈Z,lu A B z) :Z.length≤(A.length+1)*(B.length+1) :=uY Z hn _ (X0 B.length) fun z hz=>⟨mP B.length z,wu (h z hz),Si (h z hz)⟩
abbrev eU:=List Int→Bool
noncomputable instance aoB:DecidableEq eU:=fun _ _=>Classical.propDecidable _
def jb(ls:List Int)(k:Nat) :Int:=(ls++ [-1]).getD k 0
def xW(ls:List Int)(r:Int) :Int:=if r∈ls then r else-1
def toR(F:eU)(r:Int) :eU:=fun w=>F (r::w)
noncomputable def jV(ls:List Int) :Sys eU:=⟨fun F=>F [],fun F k=>toR F (jb ls k),fun F=>decide (F=fun _=>false)⟩
def eZ(ls:List Int)(F:eU) :Prop:=∀w,F w=F (w.map (xW ls))
def lQ(ls:List Int)(F:eU) :jA:=fun v=>v.all (fun a=>decide (a<ls.length+1)) &&F (v.map (jb ls))
def jg(ls:List Int)(F:eU)(D:List aT) :Prop:=bS.dx ls.length ls (lQ ls F) D
structure Lets(ls:List Int) :Prop where
 rise:iG ls
 pos: ∀r∈ls,0≤r
theorem Lets.nodup {ls:List Int}(h:Lets ls) :ls.Nodup:=h.rise.imp fun h=>by omega
theorem yG {ls:List Int} {k:Nat}(hk:k<ls.length) :jb ls k=ls[k] :=by unfold jb;rw[aah,aav hk,aaQ hk];rfl
theorem nA(ls:List Int) :jb ls ls.length= -1:=by simp[jb]
theorem Lets.sym {ls:List Int}(h:Lets ls) {k:Nat}(hk:k<ls.length+1) :jf ls (jb ls k)=k:=by
 unfold jf;by_cases e:k<ls.length;·rw[yG e];exact h.nodup.idxOf_getElem k e
 ·have:k=ls.length:=by omega
  subst this;rw[nA];exact aa4 (fun hm=>by have:=h.pos _ hm;omega)
theorem WN(ls:List Int)(r:Int) :jb ls (jf ls r)=xW ls r:=by
 unfold xW;by_cases e:r∈ls;·have hl:jf ls r<ls.length:=List.idxOf_lt_length_iff.2 e;rw[if_pos e,yG hl];exact List.getElem_idxOf hl
 ·rw[if_neg e];have:jf ls r=ls.length:=aa4 e;rw[this,nA]
def KZ(m:Nat)(L:jA) :Prop:=∀v,¬(∀a∈v,a<m+1)→L v=false
def phi(ls:List Int)(L:jA) :eU:=fun w=>L (w.map (jf ls))
theorem Sy(ls:List Int)(F:eU) :KZ ls.length (lQ ls F) :=by
 intro v hv;unfold lQ;have:v.all (fun a=>decide (a<ls.length+1))=false:=by exact XR
 rw[this];rfl
theorem Oo {ls:List Int}(h:Lets ls) : ∀(v:List Nat),(∀a∈v,a<ls.length+1)→(v.map (jb ls)).map (jf ls)=v
 | [],_=>rfl
 |a::v,hv=>by rw[aab,aab,h.sym (hv a (by simp)),Oo h v fun b hb=>hv b (by simp[hb])]
theorem Oe {ls:List Int}(h:Lets ls) {L M:jA}(hL:KZ ls.length L)(hM:KZ ls.length M)(e:phi ls L=phi ls M) :L=M:=by
 funext v;by_cases hv: ∀a∈v,a<ls.length+1;·have:=congrFun e (v.map (jb ls));unfold phi at this;rw[Oo h v hv]at this;exact this
 ·rw[hL v hv,hM v hv]
theorem Ae {ls:List Int} {F:eU}(hF:eZ ls F) :phi ls (lQ ls F)=F:=by
 funext w;unfold phi lQ;have h1:(w.map (jf ls)).all (fun a=>decide (a<ls.length+1))=true:=List.all_eq_true.2 fun a ha=>by obtain⟨r,_,rfl⟩ :=List.mem_map.1 ha;have:=CX ls r;simp;omega
 rw[h1,Bool.true_and,hF w,aau];congr 1;exact aas fun r _=>WN ls r
theorem jg.chars {ls:List Int}(h:Lets ls) {F:eU} {D:List aT}(hF:eZ ls F)(hD:jg ls F D) :(jV ls).dx ls.length ls F D:=by
 have:=Sys.dx.map (U:=jV ls) hD (phi ls) (KZ ls.length) (Sy ls F) (fun x y hx hy e=>Oe h hx hy e) (fun x hx k hk=> ?_) (fun x hx=>rfl) (fun x hx k hk=> ?_) (fun x hx=> ?_);·rw[Ae hF]at this;exact this
 ·intro v hv;refine hx _ fun hc=>hv fun a ha=>hc a (by simp[ha])
 ·funext w;show x (k::w.map (jf ls))=x ((jb ls k::w).map (jf ls));rw[aab,h.sym (by omega)]
 ·show decide (phi ls x=fun _=>false)=bS.dead x;have hz:phi ls bM=fun _=>false:=rfl;have hs:KZ ls.length bM:=fun v _=>rfl;by_cases e:x=bM;·subst e;simp[hz,bS]
  ·have e':phi ls x≠fun _=>false:=fun hc=>e (Oe h hx hs (hc.trans hz.symm));simp[e',bS,e]
theorem eZ.next {ls:List Int} {F:eU}(h:eZ ls F)(r:Int) :eZ ls (toR F r) :=by
 intro w;show F (r::w)=F (r::w.map (xW ls));rw[h (r::w),h (r::w.map (xW ls)),aab,aab,aau];congr 2;refine aas fun s _=> ?_;show xW ls s=xW ls (xW ls s);unfold xW;by_cases e:s∈ls;·simp[e]
 ·simp only[if_neg e];split<;>rfl
theorem eZ.other {ls:List Int} {F:eU}(h:eZ ls F) {r:Int}(hr:r∉ls) :toR F r=toR F (-1) :=by
 funext w;show F (r::w)=F (-1::w);rw[h (r::w),h (-1::w),aab,aab];have e:xW ls r=xW ls (-1) :=by unfold xW;rw[if_neg hr];split<;>rfl
 rw[e]
noncomputable def zS(ls:List Int)(F:eU) :List Int:=ls.filter fun r=>decide (toR F r≠toR F (-1))
theorem Fz(ls:List Int)(F:eU) :((jV ls).told ls.length F).map (jb ls)=zS ls F:=by
  unfold Sys.told zS
  have e:ls=(aaL ls.length).map (jb ls) :=by
    refine List.ext_getElem (by simp) fun i h1 h2=> ?_
    rw[List.getElem_map,List.getElem_range,yG h1]
  conv=>rhs;rw[e]
  rw[List.filter_map]
  congr 1
  refine List.filter_congr fun k hk=> ?_
  show decide (toR F (jb ls k)≠toR F (jb ls ls.length))=_
  rw[nA]
  simp
theorem Fw {ls ms:List Int}(h:Lets ls)(k:Lets ms) {F:eU}(hF:eZ ls F)(hM:eZ ms F) :zS ls F=zS ms F:=by
 refine Bv _ _ (h.rise.filter _) (k.rise.filter _) fun r=> ?_;unfold zS;rw[aa1,aa1];constructor;·rintro⟨h1,h2⟩;refine⟨aa8 fun hc=> ?_,h2⟩;simp[hM.other hc]at h2
 ·rintro⟨h1,h2⟩;refine⟨aa8 fun hc=> ?_,h2⟩;simp[hF.other hc]at h2
theorem Kg(ls:List Int)(F:eU) :(jV ls).nexts ls.length F=((zS ls F).map (toR F)++ [toR F (-1)]).filter fun G=> !(jV ls).dead G:=by
 unfold Sys.nexts;rw[←Fz,aau];have:(jV ls).aZ F ls.length=toR F (-1) :=by show toR F (jb ls ls.length)=_;rw[nA]
 rw[this];rfl
theorem Ue {ls ms:List Int}(h:Lets ls)(k:Lets ms) {F:eU}(hF:eZ ls F)(hM:eZ ms F) {D:List aT}(hD:(jV ls).dx ls.length ls F D) :(jV ms).dx ms.length ms F D:=by
 obtain⟨o,h1,rfl⟩ :=hD;have hP: ∀G:eU,(eZ ls G∧eZ ms G)→∀H∈(jV ls).nexts ls.length G,eZ ls H∧eZ ms H:=by
  intro G hG H hH;rw[Kg]at hH;rcases List.mem_append.1 (List.mem_filter.1 hH).1 with h2|h2;·obtain⟨r,_,rfl⟩ :=List.mem_map.1 h2;exact⟨hG.1.next r,hG.2.next r⟩
  ·rw[List.mem_singleton.1 h2];exact⟨hG.1.next _,hG.2.next _⟩
 have hn: ∀G:eU,(eZ ls G∧eZ ms G)→(jV ms).nexts ms.length (id G)=((jV ls).nexts ls.length G).map id:=by intro G hG;rw[aa3,Kg,id,Kg,Fw h k hG.1 hG.2];rfl
 have h2:=h1.map ((jV ms).nexts ms.length) id (fun G=>eZ ls G∧eZ ms G) ⟨hF,hM⟩ (fun x y _ _ e=>e) hP hn;rw[aa3]at h2;refine⟨o,h2,?_⟩;have hall:=h1.all (fun G=>eZ ls G∧eZ ms G) ⟨hF,hM⟩ hP;refine aas fun G hG=> ?_;have hR:=hall G hG;unfold Sys.state;have mG: ∀H,(jV ls).num o H=(jV ms).num o H:=fun H=>rfl;have hlast:(jV ls).aZ G ls.length=(jV ms).aZ G ms.length:=by show toR G (jb ls ls.length)=toR G (jb ms ms.length);rw[nA,nA]
 have aii: ∀(qs:List Int),((jV qs).told qs.length G).map (fun j=>(qs.getD j 0,(jV qs).num o ((jV qs).aZ G j)))=(zS qs G).map fun r=>(r,(jV qs).num o (toR G r)) :=by intro qs;rw[←Fz,aau];refine aas fun j hj=> ?_;have hj2:j<qs.length:=List.mem_range.1 (List.mem_filter.1 hj).1;show(qs.getD j 0,_)=(jb qs j,_);rw[yG hj2,aah,aaQ hj2];show(qs[j],(jV qs).num o (toR G (jb qs j)))=_;rw[yG hj2]
 rw[aii ls,aii ms,Fw h k hR.1 hR.2,hlast];rfl
theorem jg.back {ls:List Int}(h:Lets ls) {F:eU} {D:List aT}(hF:eZ ls F)(hD:(jV ls).dx ls.length ls F D) :jg ls F D:=by
 have hinj: ∀x y,eZ ls x→eZ ls y→lQ ls x=lQ ls y→x=y:=fun x y hx hy e=>by rw[←Ae hx,←Ae hy,e]
 refine Sys.dx.map (U:=bS) hD (lQ ls) (eZ ls) hF hinj (fun x hx k _=>hx.next _) (fun x _=>rfl) (fun x hx k hk=> ?_) (fun x hx=> ?_);·funext v;show(v.all _&&x (jb ls k::v.map (jb ls)))=((k::v).all (fun a=>decide (a<ls.length+1)) &&x (jb ls k::v.map (jb ls)));rw[List.all_cons,decide_eq_true (show k<ls.length+1 by omega),Bool.true_and]
 ·have hz:lQ ls (fun _=>false)=bM:=by funext v;simp[lQ,bM]
  have hs:eZ ls (fun _=>false) :=fun _=>rfl;show decide (lQ ls x=bM)=decide (x=fun _=>false);by_cases e:x=fun _=>false;·subst e;simp[hz]
  ·have e':lQ ls x≠bM:=fun hc=>e (hinj _ _ hx hs (hc.trans hz.symm));simp[e',e]
theorem jg.move {ls ms:List Int}(h:Lets ls)(k:Lets ms) {F:eU}(hF:eZ ls F)(hM:eZ ms F) {D:List aT}(hD:jg ls F D) :jg ms F D:=jg.back k hM (Ue h k hF hM (hD.chars h hF))
theorem jg.uniq {ls ms:List Int}(h:Lets ls)(k:Lets ms) {F:eU}(hF:eZ ls F)(hM:eZ ms F) {D E:List aT}(hD:jg ls F D)(hE:jg ms F E) :D=E:=Sys.dx.uniq (hD.move h k hF hM) hE
def iF(D:List aT) :eU:=fun w=>fK D (w.foldl (bu D) 0)
theorem jg.run {ls:List Int}(h:Lets ls) {F:eU}(hF:eZ ls F) {D:List aT}(hD:jg ls F D) :iF D=F:=by funext w;have:=Tg hD h.nodup rfl w;have e:=congrFun (Ae hF) w;exact this.trans e
def kr(A B:List aT)(op:Bool→Bool→Bool) :eU:=fun w=>op (iF A w) (iF B w)
theorem Jj(A B:List aT)(op:Bool→Bool→Bool)(sm:List Int) : ∀(v:List Nat)(z:Int×Int),v.foldl (lV A B op sm).step z=((v.map fun j=>sm.getD j 0).foldl (bu A) z.1,(v.map fun j=>sm.getD j 0).foldl (bu B) z.2)
 | [],_=>rfl
 |a::v,z=>Jj A B op sm v _
theorem Dk {D:List aT} {r r':Int}(h: ∀s∈D,∀a∈s.2.1,a.1≠r)(h': ∀s∈D,∀a∈s.2.1,a.1≠r')(z:Int) :bu D z r=bu D z r':=by
 unfold bu;split;·rfl
 ·cases hs:D[z.toNat]? with
  |none=>rfl
  |some s=>
   have hm:=aaY hs;have e1:s.2.1.find? (fun a=>a.1==r)=none:=List.find?_eq_none.2 fun a ha=>by simpa using h s hm a ha
   have e2:s.2.1.find? (fun a=>a.1==r')=none:=List.find?_eq_none.2 fun a ha=>by simpa using h' s hm a ha
   simp only[e1,e2]
theorem Lm {ls:List Int} {D:List aT}(hp: ∀s∈D,∀a∈s.2.1,0≤a.1)(hm: ∀s∈D,∀a∈s.2.1,a.1∈ls) :eZ ls (iF D) :=by
 have key: ∀(w:List Int)(z:Int),w.foldl (bu D) z=(w.map (xW ls)).foldl (bu D) z:=by
  intro w;induction w with
  |nil=>intro z;rfl
  |cons r w ih=>
   intro z;rw[aab,aaw,aaw,ih];congr 1;unfold xW;by_cases e:r∈ls;·rw[if_pos e]
   ·rw[if_neg e];exact Dk (fun s hs a ha hc=>e (by rw[←hc];exact hm s hs a ha)) (fun s hs a ha hc=>by have:=hp s hs a ha;omega) z
 intro w;show fK D _=fK D _;rw[key]
theorem UF {ls:List Int} {A B:List aT}(op:Bool→Bool→Bool)(hA:eZ ls (iF A))(hB:eZ ls (iF B)) :eZ ls (kr A B op) :=by intro w;unfold kr;rw[hA w,hB w]
theorem Cg(A B:List aT)(op:Bool→Bool→Bool)(ls:List Int)(o:Int)(ho: ∀s∈A,∀a∈s.2.1,0≤a.1)(hb: ∀s∈B,∀a∈s.2.1,0≤a.1)(hn:o<0) :(lV A B op (ls++ [o])).aW (ls.length+1) (0,0)=lQ ls (kr A B op) :=by
 funext v;unfold bN.aW lQ;congr 1;have hacc: ∀(v:List Nat)(z:Int×Int),(lV A B op (ls++ [o])).acc z v=(lV A B op (ls++ [o])).fin (v.foldl (lV A B op (ls++ [o])).step z) :=by
  intro v;induction v with
  |nil=>intro z;rfl
  |cons a v ih=>intro z;exact ih _
 have abD: ∀(D:List aT),(∀s∈D,∀a∈s.2.1,0≤a.1)→∀(v:List Nat)(z:Int),(v.map fun j=>(ls++ [o]).getD j 0).foldl (bu D) z=(v.map (jb ls)).foldl (bu D) z:=by
  intro D hD v;induction v with
  |nil=>intro z;rfl
  |cons a v ih=>
   intro z;rw[aab,aab,aaw,aaw,ih];congr 1;by_cases e:a=ls.length
   ·subst e;rw[nA];have:(ls++ [o]).getD ls.length 0=o:=by simp
    rw[this];exact Dk (fun s hs a ha hc=>by have:=hD s hs a ha;omega) (fun s hs a ha hc=>by have:=hD s hs a ha;omega) z
   ·congr 1;unfold jb;rw[aah,aah];by_cases e2:a<ls.length;·rw[aav e2,aav e2]
    ·rw[aa7 (by simp;omega),aa7 (by simp;omega)]
 rw[hacc,Jj];show op (fK A _) (fK B _)=op (iF A _) (iF B _);unfold iF;rw[abD A ho,abD B hb]
def dst(hit:Nat→Bool)(i:Nat) :Int:=if hit i=true then 0 else 1
def jd(hit:Nat→Bool)(k:Int)(f:Nat→Int) :Nat→Int
 |0=>min (f 0+1) (k+1)
 |i+1=>min (f i+dst hit i) (min (f (i+1)+1) (min (jd hit k f i+1) (k+1)))
def qh(len:Nat)(f:Nat→Int) :List Int:=(aaL (len+1)).map f
def dQ(z:List Int)(i:Nat) :Int:=z.getD i 0
def CY(head came:Int)(hit:Nat→Bool) :Int:=if came<head then(if hit came.toNat=true then came+1 else head+1)else came
def uV(len:Nat)(k head:Int)(hit:Nat→Bool)(z:List Int) :List Int:=qh len (jd hit k (dQ z))++ [CY head (dQ z (len+1)) hit]
def amA(len:Nat)(k head:Int)(z:List Int) :Bool:=decide (dQ z len≤k) &&decide (dQ z (len+1)=head)
def qM(len:Nat)(k:Int) :List Int:=qh len (fun i=>min (i:Int) (k+1))++ [0]
theorem XM(len:Nat)(f:Nat→Int) :(qh len f).length=len+1:=by simp[qh]
theorem Df {len:Nat}(f:Nat→Int)(x:Int) {i:Nat}(h:i≤len) :dQ (qh len f++ [x]) i=f i:=by simp[dQ,qh,List.getElem?_append,show i<len+1 by omega]
theorem zY(len:Nat)(f:Nat→Int)(x:Int) :dQ (qh len f++ [x]) (len+1)=x:=by simp[dQ,qh]
theorem G8 {len:Nat} {f g:Nat→Int}(h: ∀i,i≤len→f i=g i) :qh len f=qh len g:=aas fun i hi=>h i (by have:=List.mem_range.1 hi;omega)
structure kN(len:Nat)(k head:Int)(z:List Int) :Prop where
 form:z=qh len (dQ z)++ [dQ z (len+1)]
 win: ∃t:Nat,∀i,i≤len→0≤dQ z i∧dQ z i≤k+1∧(dQ z i≤k→(t:Int)≤i+dQ z i∧(i:Int)≤t+dQ z i)
 came:0≤dQ z (len+1)∧dQ z (len+1)≤head+1
theorem kN.len {len:Nat} {k head:Int} {z:List Int}(h:kN len k head z) :z.length=len+2:=by rw[h.form];simp[XM]
theorem SV {len:Nat} {k head:Int}(hk:0≤k)(hh:0≤head) :kN len k head (qM len k) :=by
 refine⟨?_,⟨0,fun i hi=> ?_⟩,?_⟩;·unfold qM;rw[zY,G8 fun i hi=>(Df (fun i=>min (i:Int) (k+1)) 0 hi)]
 ·unfold qM;rw[Df _ _ hi];omega
 ·unfold qM;rw[zY];omega
theorem zK {hit:Nat→Bool} {k:Int}(hk:0≤k) {f:Nat→Int} : ∀(i:Nat),(∀j,j≤i→0≤f j)→0≤jd hit k f i∧jd hit k f i≤k+1
 |0,h=>by have:=h 0 (by omega);simp only[jd];omega
 |i+1,h=>by have h1:=zK (hit:=hit) hk i (fun j hj=>h j (by omega));have h2:=h i (by omega);have h3:=h (i+1) (by omega);exact aay
theorem kN.step {len:Nat} {k head:Int} {z:List Int}(h:kN len k head z)(hk:0≤k)(hh:0≤head)(hit:Nat→Bool) :kN len k head (uV len k head hit z) :=by
 obtain⟨t,ht⟩ :=h.win;have hc:=h.came;refine⟨?_,⟨t+1,?_⟩,?_⟩;·unfold uV;rw[zY,G8 fun i hi=>(Df (jd hit k (dQ z)) _ hi)]
 ·intro i hi;unfold uV;rw[Df _ _ hi];have hb:=zK (hit:=hit) hk (f:=dQ z) i (fun j hj=>(ht j (by omega)).1);refine⟨hb.1,hb.2,?_⟩;induction i with
  |zero=>simp only[jd];have:=ht 0 (by omega);omega
  |succ i ih=>have ih':=ih (by omega) (zK (hit:=hit) hk (f:=dQ z) i (fun j hj=>(ht j (by omega)).1));have h1:=ht i (by omega);have h2:=ht (i+1) hi;exact aay
 ·unfold uV;rw[zY];unfold CY;split;·split<;>omega
  ·omega
def Wt(len:Nat)(k:Int)(c:Nat) :List Int:=qh len (fun i=>if c/32768≤i+2∧i≤c/32768+2 then((c/32 %1024/4^(i+2-c/32768) %4:Nat) :Int)else k+1)++ [((c %32:Nat) :Int)]
theorem ahc(e0 e1 e2 e3 e4:Nat)(h0:e0<4)(h1:e1<4)(h2:e2<4)(h3:e3<4)(h4:e4<4) :e0+4*e1+16*e2+64*e3+256*e4<1024∧∀j,j≤4→(e0+4*e1+16*e2+64*e3+256*e4) /4^j %4=(match j with|0=>e0|1=>e1|2=>e2|3=>e3|_=>e4) :=by
 refine⟨by omega,fun j hj=> ?_⟩;match j,hj with
 |0,_=>simp;omega
 |1,_=>simp;omega
 |2,_=>simp;omega
 |3,_=>simp;omega
 |4,_=>simp;omega
theorem kN.code {len:Nat} {k head:Int} {z:List Int}(h:kN len k head z)(hl:len≤30)(hk:0≤k)(hk2:k≤2)(hh:head≤30) : ∃c,c<1114112∧Wt len k c=z:=by
 obtain⟨t0,ht0⟩ :=h.win;have hc:=h.came;obtain⟨t,arY,ht⟩ : ∃t,t≤33∧∀i,i≤len→0≤dQ z i∧dQ z i≤k+1∧(dQ z i≤k→t≤i+2∧i≤t+2) :=by
  by_cases h1:t0≤len+3;·exact⟨t0,by omega,fun i hi=>by have:=ht0 i hi;omega⟩
  ·exact⟨len+3,by omega,fun i hi=>by have:=ht0 i hi;omega⟩
 have hd: ∃e:Nat→Nat,(∀j,e j<4)∧∀i,i≤len→t≤i+2→i≤t+2→((e (i+2-t) :Nat) :Int)=dQ z i:=by
  refine⟨fun j=>if j+t≤len+2∧2≤j+t then(dQ z (j+t-2)).toNat else 0,fun j=> ?_,fun i hi h1 h2=> ?_⟩
  ·dsimp only;split;·have:=ht (j+t-2) (by omega);omega
   ·omega
  ·have h3:i+2-t+t-2=i:=by omega
   dsimp only;rw[h3];have:=ht i hi;split<;>omega
 obtain⟨e,he,he2⟩ :=hd;obtain⟨g1,g2⟩ :=ahc (e 0) (e 1) (e 2) (e 3) (e 4) (he 0) (he 1) (he 2) (he 3) (he 4);generalize hD:e 0+4*e 1+16*e 2+64*e 3+256*e 4=d at g1 g2;obtain⟨x,hx⟩ : ∃x:Nat,dQ z (len+1)=(x:Int) :=⟨(dQ z (len+1)).toNat,by omega⟩;have hx32:x<32:=by omega
 refine⟨t*32768+d*32+x,by omega,?_⟩;have q1:(t*32768+d*32+x) /32768=t:=by omega
 have q2:(t*32768+d*32+x) /32 %1024=d:=by omega
 have q3:(t*32768+d*32+x) %32=x:=by omega
 rw[h.form];unfold Wt;rw[q1,q2,q3,hx];congr 1;refine G8 fun i hi=> ?_;by_cases hw:t≤i+2∧i≤t+2
 ·rw[if_pos hw,←he2 i hi hw.1 hw.2,g2 (i+2-t) (by omega)];obtain⟨j,hj⟩ : ∃j,i+2-t=j:=⟨_,rfl⟩;rw[hj];match j,(show j≤4 by omega)with
  |0,_=>rfl
  |1,_=>rfl
  |2,_=>rfl
  |3,_=>rfl
  |4,_=>rfl
 ·rw[if_neg hw];have:=ht i hi;omega
abbrev ars:=Nat×Nat×Nat×Nat
def qQ(word:List Int)(r:Int)(i:Nat) :Bool:=decide (word.getD i 0=r)
def rG(n:Nat)(f:Nat→Int) :List Int:=(aaL n).map f
theorem EH(n:Nat)(f:Nat→Int) :rG (n+1) f=rG n f++ [f n] :=by simp[rG,List.range_succ]
theorem afO(f:Nat→Int) {n i:Nat}(h:i<n) :(zI (rG n f))[i]?=some (.int .i64 (f i)) :=by simp[zI,rG,h]
theorem abN(c y z t d:Int)(h:d=min c (min y (min z t))) : ∃m2 m3,(if y<c then y else c)=m2∧(if z<m2 then z else m2)=m3∧(if t<m3 then t else m3)=d:=by subst h;refine⟨_,_,rfl,rfl,?_⟩;split<;>split at* <;>split at* <;>omega
theorem J5(c y z t d:Int)(h:d=min c (min y (min z t)))(W:aaa) :(Builtin.min_ #[3,3,3,3] 3 #[.int .i64 c,.int .i64 y,.int .i64 z,.int .i64 t]).run Tryd.prog W= .ok (.int .i64 d) W:=by obtain⟨m2,m3,h2,h3,h4⟩ :=abN c y z t d h;simp[Builtin.min_,Builtin.min2,h2,h3,h4]
theorem Nv(c y d:Int)(h:d=min c y) :(if y<c then y else c)=d:=by subst h;split<;>omega
theorem X4 {hit:Nat→Bool} {k:Int}(hk:0≤k) {f:Nat→Int}(n:Nat)(h: ∀j,j≤n→0≤f j) : ∀i,i≤n→0≤jd hit k f i∧jd hit k f i≤k+1:=fun i hi=>zK hk i (fun j hj=>h j (by omega))
theorem acv(word row:List Int)(vw vr:Value)(r k:Int)(w:aaa)(hl:word.length≤1000)(hrl:row.length=word.length+1)(hk:0≤k∧k≤1000)(hbd: ∀i,i≤word.length→0≤dQ row i∧dQ row i≤2000)(hw:bD w vw word)(hr:bD w vr row) :Calls Tryd.prog 66 #[vw,vr,.int .i64 r,.int .i64 k] w fun e w'=>∃v,e= .returned v∧w'.ownsRow w.heap.size 3 1 v (word.length+1) (zI (rG (word.length+1) (jd (qQ word r) k (dQ row))))∧Below w.heap.size w w':=by
 obtain⟨i0,hi,hz0,hz1,hz2⟩ :=info_parts Tryd.infoIntL;obtain⟨aw,cw,rfl,Oz⟩ :=hw;obtain⟨ar,cr,rfl,hrr⟩ :=hr;have HW:=ah Oz;have jX:=ah hbd;have HN:=ah (X4 (hit:=qQ word r) hk.1 (f:=dQ row) word.length (fun j hj=>(hbd j hj).1));obtain⟨gr,or,rfl,hgr,hcr⟩ :=hrr.resolve_left (fun h=>by rw[h]at hrl;simp at hrl);have HR:=ah hcr;have anY:0<row.length:=by omega
 have arW:(0:Int)<(row.length:Int) :=by omega
 have c0:w.cell? ⟨gr,or,none⟩=some (.int .i64 (dQ row 0)) :=by have:=hcr 0 anY;simpa[dQ]using this
 have Hrl:=ah hrl;have b0:=hbd 0 (by omega);obtain⟨nw,hnw⟩ : ∃nw,jd (qQ word r) k (dQ row)=nw:=⟨_,rfl⟩;have HS:=ah (fun i(hi:i<word.length)=>(show jd (qQ word r) k (dQ row) (i+1)=min (dQ row i+dst (qQ word r) i) (min (dQ row (i+1)+1) (min (jd (qQ word r) k (dQ row) i+1) (k+1)))from rfl));have h0:nw 0=min (dQ row 0+1) (k+1) :=by rw[←hnw];rfl
 rw[hnw]at HN HS;rw[hnw];clear Oz hrr hbd hcr hrl hnw;have Qe:=Nv (dQ row 0+1) (k+1) (nw 0) h0;have hb0:0≤nw 0∧nw 0≤2000:=by have:=HN.out 0 (by omega);omega
 clear h0;generalize dQ row 0=f0 at*;obtain⟨n0,hn0⟩ : ∃n0,nw 0=n0:=⟨_,rfl⟩;rw[hn0]at Qe hb0;obtain⟨k1,hk1⟩ : ∃k1,k+1=k1:=⟨_,rfl⟩;rw[hk1]at Qe;obtain⟨f1,hf1⟩ : ∃f1,f0+1=f1:=⟨_,rfl⟩;rw[hf1]at Qe;have arC:1≤k1∧k1≤1001:=by omega
 have Hk1:=ah hk1;have wD:=ah hn0;clear hn0;go_enter Tryd.func66,Tryd.ntmps66;go_wp2;have HB0:Hid (Below w.heap.size w (w.alloc (.cells #[.int .i64 n0] 3))) :=(Below.refl _ _).alloc (aaV _) _;have Bh:Hid ((w.alloc (.cells #[.int .i64 n0] 3)).ownsRow w.heap.size 3 1 (.slice (some ⟨w.heap.size,0,none⟩) 1 1) 1 (zI (rG 1 nw))) :=by show World.ownsRow _ _ _ _ _ _ _;have:=World.ownsRow_lit (base:=w.heap.size) (e:=3) (size:=1) w #[.int .i64 n0] 1 (aaV _) (by unfold maxLen;omega) (by simp);rw[EH,wD.out];simpa[zI,rG]using this
 generalize w.alloc (.cells #[.int .i64 n0] 3)=wn at*;go_loopw [9,10](fun nv iv wx=>∃j:Nat,1≤j∧j≤word.length+1∧iv= .int .i64 (j:Int)∧wx.ownsRow w.heap.size 3 1 nv j (zI (rG j nw))∧Below w.heap.size w wx)(fun _ iv _=>word.length+1-(intOf iv).toNat);case atStart=>exact⟨1,by omega,by omega,rfl,Bh.out,HB0.out⟩
 case round=>
  clear Bh HB0 Qe c0;obtain⟨j,hj1,hj,rfl,hown,hbel⟩ :=hrel;have HO:=ah hown;have fP:=ah hbel;have hzx:=hbel.size;clear hown hbel;rcases bH HO.out with⟨_,hx⟩| ⟨gn,cn,rfl,hgn1,hgn2⟩;·omega
  by_cases hjl:j≤word.length
  ·have hjz:(j:Int)≤(word.length:Int) :=by omega
   obtain⟨q,hjq⟩ : ∃q,j=q+1:=⟨j-1,by omega⟩;have mO:q<word.length:=by omega
   have asy:(q:Int)<(word.length:Int) :=by omega
   have hqz:(j:Int)-1=(q:Int) :=by omega
   have hrlen:row.length=word.length+1:=Hrl.out;have hjr:(j:Int)<(row.length:Int) :=by omega
   have hqr:(q:Int)<(row.length:Int) :=by omega
   have hqj:(q:Int)<(j:Int) :=by omega
   obtain⟨gw,ow,rfl,hgw,hcw⟩ :=HW.out.resolve_left (fun h=>by rw[h]at mO;simp at mO);have g1:=(fP.out.cell (p:=⟨gw,ow+q,none⟩) hgw).trans (hcw q mO);have g2:wr.cell? ⟨gr,or+q,none⟩=some (.int .i64 (dQ row q)) :=(fP.out.cell (p:=⟨gr,or+q,none⟩) hgr).trans (HR.out q (by omega));have g3:wr.cell? ⟨gr,or+j,none⟩=some (.int .i64 (dQ row j)) :=(fP.out.cell (p:=⟨gr,or+j,none⟩) hgr).trans (HR.out j (by omega));have n1:=(HO.out.cellAt q (by omega)).trans (afO nw (show q<j by omega));have Qm:=ah (EH j nw);have hv:nw j=min (dQ row q+dst (qQ word r) q) (min (dQ row j+1) (min (nw q+1) (k+1))) :=by rw[hjq];exact HS.out q mO
   have b1:=jX.out q (by omega);have b2:=jX.out j (by omega);have b3:=HN.out q (by omega);have b4:=HN.out j (by omega);have hd:dst (qQ word r) q=if word.getD q 0=r then 0 else 1:=by simp[dst,qQ]
   rw[hd,Hk1.out]at hv;clear hd hrlen hjq hcw;generalize word.getD q 0=x at*;generalize dQ row q=d0 at*;generalize dQ row j=d1 at*;generalize nw q=d2 at*;obtain⟨d3,hd3⟩ : ∃d3,nw j=d3:=⟨_,rfl⟩;rw[hd3]at hv b4 Qm;clear hd3;obtain⟨y1,hy1⟩ : ∃y1,d1+1=y1:=⟨_,rfl⟩;obtain⟨z1,hz1'⟩ : ∃z1,d2+1=z1:=⟨_,rfl⟩;rw[hy1,hz1']at hv;have arn:0≤d3∧d3≤2000:=by omega
   have hwy:IntKind.i64.wrap y1=y1:=by exact aat _ ⟨by omega,by omega⟩
   have hwz:IntKind.i64.wrap z1=z1:=by exact aat _ ⟨by omega,by omega⟩
   have hwk:IntKind.i64.wrap k1=k1:=by exact aat _ ⟨by omega,by omega⟩
   have hwq:IntKind.i64.wrap (q:Int)=(q:Int) :=by exact aat _ ⟨by omega,by omega⟩
   have fin: ∀(w6:aaa)(g6 pG:Nat),Hid (w6.ownsRow w.heap.size 3 1 (.slice (some ⟨g6,0,none⟩) (j+1) pG) (j+1) (zI (rG j nw)++ [.int .i64 d3]))→Hid (Below w.heap.size w w6)→w6.ownsRow w.heap.size 3 1 (.slice (some ⟨g6,0,none⟩) (j+1) pG) (j+1) (zI (rG (j+1) nw))∧Below w.heap.size w w6:=by intro w6 g6 pG h1 h2;rw[Qm.out,mh];exact⟨h1.out,h2.out⟩
   have HF:=ah fin;clear fin;by_cases TY:x=r
   ·have hxb:(x !=r)=false:=by simp[TY]
    obtain⟨c1,hc1⟩ : ∃c1,d0=c1:=⟨_,rfl⟩;have hmn:=J5 c1 y1 z1 k1 d3 (by rw[hv,if_pos TY];omega);exact adM
   ·have hxb:(x !=r)=true:=by simp[TY]
    obtain⟨c1,hc1⟩ : ∃c1,d0+1=c1:=⟨_,rfl⟩;have hwc:IntKind.i64.wrap c1=c1:=by exact aat _ ⟨by omega,by omega⟩
    have hmn:=J5 c1 y1 z1 k1 d3 (by rw[hv,if_neg TY];omega);exact adM
  ·have hjz: ¬(j:Int)≤(word.length:Int) :=by omega
   obtain rfl:j=word.length+1:=by omega
   go_wp2;go_ret;exact⟨_,rfl,HO.out,fP.out⟩
def SB(word ls:List Int)(k head:Int) :bN (List Int) :=⟨fun z a=>uV word.length k head (qQ word (fU ls a)) z,amA word.length k head⟩
theorem KJ {len:Nat} {k head:Int} {Z:List (List Int)}(hl:len≤30)(hk:0≤k)(hk2:k≤2)(hh:head≤30)(hn:Z.Nodup)(hz: ∀z∈Z,kN len k head z) :Z.length≤1114112:=uY Z hn 1114112 (Wt len k) fun z hz'=>(hz z hz').code hl hk hk2 hh
theorem acw {word ls:List Int} {k head:Int} {Z:List (List Int)} {x:List Int}(hk:0≤k)(hh:0≤head)(hn:Z.Nodup)(hz: ∀z∈Z,kN word.length k head z)(hx:kN word.length k head x)(j:Nat) :(aS (SB word ls k head) Z x j).Nodup∧∀z∈aS (SB word ls k head) Z x j,kN word.length k head z:=by
 refine⟨iW hn,fun z hz'=> ?_⟩;rcases jC.1 hz' with h|h;·exact hz z h
 ·obtain⟨a,_,rfl⟩ :=List.mem_map.1 h;exact hx.step hk hh _
def bE(D:List aT) :List Int:=D.flatMap fun s=>s.2.1.map Prod.fst
theorem BR(D:List aT)(i:Nat)(hi:i<D.length) :bE (D.take (i+1))=bE (D.take i)++(D.getD i ps0).2.1.map Prod.fst:=by unfold bE;rw[List.take_succ_eq_append_getElem hi,List.flatMap_append,aah,aaQ hi];simp
theorem Ub(ls:List Int) {j:Nat}(h:j≤ls.length) :(ls++ [-9]).getD j 0=fU ls j:=by
 unfold fU;rw[aah];by_cases e:j<ls.length;·rw[if_pos e,aav e,←aah]
 ·rw[if_neg e,show j=ls.length by omega];simp
def lU(p:Int×Int) :List Int:=[p.1,p.2]
structure pJ(A B:List aT)(Z:List (Int×Int))(sn:List Int) :Prop where
 len:sn.length=(A.length+1)*(B.length+1)
 at_: ∀p,lu A B p→sn.getD (mP B.length p) 0=if p∈Z then(ix Z p:Int)+1 else 0
theorem pJ.first {A B:List aT}(h0:lu A B (0,0)) {k:Nat}(hk:k=mP B.length (0,0)) :pJ A B [(0,0)] ((List.replicate ((A.length+1)*(B.length+1)) 0).set k 1) :=by
 subst hk;refine⟨by simp,fun p hp=> ?_⟩;rw[aah,aa5];by_cases e:p=(0,0);·subst e;rw[if_pos rfl,if_pos (by rw[List.length_replicate];exact wu h0),if_pos (by simp)];simp[ix]
 ·rw[if_neg (fun h=>e (Js hp h0 h.symm)),if_neg (by simpa using e),List.getElem?_replicate,if_pos (wu hp)];rfl
theorem pJ.push {A B:List aT} {Z:List (Int×Int)} {sn:List Int}(h:pJ A B Z sn) {y:Int×Int}(hy:lu A B y)(hn:y∉Z) :pJ A B (Z++ [y]) (sn.set (mP B.length y) ((Z.length:Int)+1)) :=by
 refine⟨by simp[h.len],fun p hp=> ?_⟩;rw[aah,aa5];by_cases e:p=y;·subst e;rw[if_pos rfl,if_pos (by rw[h.len];exact wu hy),if_pos (by simp),jr hn];rfl
 ·rw[if_neg (fun h=>e (Js hp hy h.symm)),←aah,h.at_ p hp];by_cases m:p∈Z;·rw[if_pos m,if_pos (by simp[m]),vL m]
  ·rw[if_neg m,if_neg (by simp[m,e])]
theorem ab4 {A B:List aT}(hA:bP A)(hB:bP B) {op:Bool→Bool→Bool} {sm:List Int} {Z:List (Int×Int)}(hn:Z.Nodup)(h: ∀z∈Z,lu A B z)(x:Int×Int)(j:Nat) :(aS (lV A B op sm) Z x j).Nodup∧∀z∈aS (lV A B op sm) Z x j,lu A B z:=by
 refine⟨iW hn,fun z hz=> ?_⟩;rcases jC.1 hz with hz|hz;·exact h z hz
 ·obtain⟨a,_,rfl⟩ :=List.mem_map.1 hz;exact L6 hA hB _ _ _ _
theorem IP(W:aaa)(a:Act)(o:Oper)(f:FuncId)(x:Operand)(t:TypeId)(ho:o.op= .call {callee:= .value (.func f),args:=#[x],argTypes:=#[t]})(v:Value)(hx:a.eval x=v)(hf:(callFunc f #[v]).run Tryd.prog W= .ok (.enter f #[v]) W) :(aal a.eval o).run Tryd.prog W= .ok (.enter f #[v]) W:=by have hfn:a.eval (.func f)= .func (.func f) #[] #[] :=rfl;unfold aal;simp[ho,resolve,invoke,Deferred.ofValue,hfn,hx,hf]
theorem eT(W:aaa)(a:Act)(o:Oper)(f:FuncId)(x y:Operand)(t u:TypeId)(ho:o.op= .call {callee:= .value (.func f),args:=#[x,y],argTypes:=#[t,u]})(v z:Value)(hx:a.eval x=v)(hy:a.eval y=z)(hf:(callFunc f #[v,z]).run Tryd.prog W= .ok (.enter f #[v,z]) W) :(aal a.eval o).run Tryd.prog W= .ok (.enter f #[v,z]) W:=by exact aiP
section
variable {ops:Array Oper} {Q:Exit→Act→aaa→Prop} {K:Act→aaa→Prop} {a:Act} {w:aaa}
theorem bQ {i:Nat} {o:Oper}(f:FuncId)(args:Array Value)(hi:ops[i]?=some o)(hw:Region.wanted o (yielded ops a.tmps)=true)(ho:(aal a.eval o).run Tryd.prog w= .ok (.enter f args) w)(h:Calls Tryd.prog f args w fun e w'=>match e,w' with
 | .returned v,w''=>K (a.put o.dst v) w''
 | .panicked c,w''=>Q (.panic c) a w''
 | .outgrown,_=>LetsOut Q) :wpOp Tryd.prog ops Q i K a w:=by exact Ww
end
section
variable {ops:Array Oper} {Q:Exit→Act→aaa→Prop} {S:aaa→Prop} {md:Region.Mode} {fuel:Nat} {listed:Array Bool} {a:Act} {w:aaa}
theorem tx(i:Nat) {oi:Oper} {v:Value} {a':Act}(h:wpAnyH Tryd.prog md ops Q S fuel (listed.setIfInBounds i true) a' w)(hi:ops[i]?=some oi:=by rfl)(hs:Region.noSelect ops=true:=by kernel_rfl)(hf:Region.free md ops listed i=true:=by kernel_rfl)(hr:(Region.ready md ops listed).contains i=true:=by kernel_rfl)(hx: ∀w,S w→(execOp a.eval oi).run Tryd.prog w= .ok (.value v) w:=by(intro w hSw;(try dsimp only at hSw);go_simp<;>with_reducible rfl))(hQ: ∀c a w,Q (.panic c) (a.put oi.dst v) w→Q (.panic c) a w:=by exact fun _ _ _ h=>h)(hw:Region.wanted oi (yielded ops a.tmps)=true:=by kernel_rfl)(hS:S w:=by first|assumption|trivial)(ha:a.put oi.dst v=a':=by(simp only[Act.put,List.getElem_toArray,List.getElem_cons_succ,List.getElem_cons_zero,List.setIfInBounds_toArray,List.set_cons_zero,List.set_cons_succ]<;>rfl)) :wpAnyH Tryd.prog md ops Q S (fuel+1) listed a w:=Di i hi hs hf hr hQ hw hx hS (ha▸h)
theorem ty(i:Nat) {oi:Oper} {a':Act}(h:wpAnyH Tryd.prog md ops Q S fuel (listed.setIfInBounds i true) a' w)(hi:ops[i]?=some oi:=by rfl)(hs:Region.noSelect ops=true:=by kernel_rfl)(hf:Region.free md ops listed i=true:=by kernel_rfl)(hr:(Region.ready md ops listed).contains i=true:=by kernel_rfl)(hQ: ∀c a w,Q (.panic c) (a.put oi.dst undef) w→Q (.panic c) a w:=by exact fun _ _ _ h=>h)(hw:Region.wanted oi (yielded ops a.tmps)=false:=by kernel_rfl)(hS:S w:=by first|assumption|trivial)(ha:a.put oi.dst undef=a':=by(simp only[Act.put,List.getElem_toArray,List.getElem_cons_succ,List.getElem_cons_zero,List.setIfInBounds_toArray,List.set_cons_zero,List.set_cons_succ]<;>rfl)) :wpAnyH Tryd.prog md ops Q S (fuel+1) listed a w:=tkS i hi hs hf hr hQ hw hS (ha▸h)
theorem tn {a':Act} {fuel:Nat}(h:wpAnyH Tryd.prog md ops Q S fuel listed a' w)(ha:a=a':=by(first| (simp only[Act.put,List.getElem_toArray,List.getElem_cons_succ,List.getElem_cons_zero,List.setIfInBounds_toArray,List.set_cons_zero,List.set_cons_succ];rfl)|rfl)) :wpAnyH Tryd.prog md ops Q S fuel listed a w:=ha▸h
theorem t1(i:Nat) {oi:Oper} {v:Value} {a':Act} {w':World}(ho:(execOp a.eval oi).run Tryd.prog w= .ok (.value v) w')(h:wpAnyH Tryd.prog md ops Q S fuel (listed.setIfInBounds i true) a' w')(hi:ops[i]?=some oi:=by rfl)(hr:Region.ready md ops listed= [i] :=by kernel_rfl)(hw:Region.wanted oi (yielded ops a.tmps)=true:=by kernel_rfl)(hS:S w':=by first|assumption|trivial)(ha:a.put oi.dst v=a':=by(first| (simp only[Act.put,List.getElem_toArray,List.getElem_cons_succ,List.getElem_cons_zero,List.setIfInBounds_toArray,List.set_cons_zero,List.set_cons_succ];rfl)|rfl)) :wpAnyH Tryd.prog md ops Q S (fuel+1) listed a w:=wpAnyH_all hr (by simp) (fun j hj=>by
 have e:j=i:=by simpa using hj
 subst e;unfold wpOp;simp only[hi,hw,if_true,Oper.wp,ho,Oper.upon];exact .inl ⟨hS,ha▸h⟩)
theorem t1s(i:Nat) {oi:Oper} {a':Act} {w':World}(ho:(execOp a.eval oi).run Tryd.prog w= .ok .skip w')(h:wpAnyH Tryd.prog md ops Q S fuel (listed.setIfInBounds i true) a' w')(hi:ops[i]?=some oi:=by rfl)(hr:Region.ready md ops listed= [i] :=by kernel_rfl)(hw:Region.wanted oi (yielded ops a.tmps)=true:=by kernel_rfl)(hS:S w':=by first|assumption|trivial)(ha:a.put oi.dst undef=a':=by(first| (simp only[Act.put,List.getElem_toArray,List.getElem_cons_succ,List.getElem_cons_zero,List.setIfInBounds_toArray,List.set_cons_zero,List.set_cons_succ];rfl)|rfl)) :wpAnyH Tryd.prog md ops Q S (fuel+1) listed a w:=wpAnyH_all hr (by simp) (fun j hj=>by
 have e:j=i:=by simpa using hj
 subst e;unfold wpOp;simp only[hi,hw,if_true,Oper.wp,ho,Oper.upon];exact .inl ⟨hS,ha▸h⟩)
end
end Go.Proofs.YtkbjimkngmlfcaaDoor
