import Derived.Test.YtkbjimkngmlfcaaDoorSetsJ07
import Derived.Test.YtkbjimkngmlfcaaDoorSetsJ08
import Derived.Ground.NamesProg
import Derived.Shelf.Unicode.ValidAny
import Derived.Test.YtkbjimkngmlfcaaDoorProg
import Derived.Test.YtkbjimkngmlfcaaDoorSetsJ00
import Derived.Lib.ValidLaws
import Derived.Lib.Strings
import Derived.WalkLawsBesides
import Derived.Test.YtkbjimkngmlfcaaDoorSetsJ03
open Go renaming World→aal,heap_alloc_new→aaQ,frozen_of_row→aap
open Go.Lib renaming decodeN→aaw,validD→aa5,decodeL_drop→aaU
open Go.RowKit renaming Below→aar
open Go.Utf8 renaming decode→aaa
open List renaming getD_eq_getElem?_getD→aab,getElem?_eq_getElem→aat,getElem_mem→aaK,sum_append→aa1,getElem?_append_left→aaL,getElem?_append_right→aaT,length_set→aa4,length_append→aaR,length_singleton→aaF,mem_of_getElem?→aaE,replicate→aa3
open Nat renaming add_sub_cancel→aaY,le_refl→aas
open Option renaming getD_some→aav,map→aaA,or_none→aaV
namespace Go.Proofs.YtkbjimkngmlfcaaDoor
open Go Go.RowKit
set_option linter.unusedVariables false
set_option linter.unusedSimpArgs false
theorem Xi {P:Prop}(h:P:=by rw[nu];unfold Lib.decodeN;rw[if_neg (by omega),if_neg (by omega),if_neg (by omega),if_neg (by omega)]) :P:=h
theorem QA {P:Prop}(h:P:=by exact⟨fun e=>by omega,fun e=>by omega,fun e=>by omega⟩) :P:=h
theorem ajn {P:Prop}(h:P:=by go_enter Tryd.func27,Tryd.ntmps27;go_wp2_with fail;refine(Vb s _ hs HT.out).mono ?_;rintro e w1⟨rfl,hb1⟩;go_wp2;go_ret;rw[HC.out];exact⟨rfl,hb1⟩) :P:=h
theorem Zo {P:Prop}(h:P:=by
 rw[List.getD_eq_getElem?_getD];cases hx:cl[x]? with
 |none=>simp
 |some z=>exact hc z (List.mem_of_getElem? hx)) :P:=h
theorem Rm {P:Prop}(h:P:=by intro hv;rw[if_neg (by omega)]at ed;exact xE s p ed) :P:=h
theorem Ze {P:Prop}(h:P:=by rw[if_neg (by omega),Int.toNat_natCast,List.getD_eq_getElem?_getD,List.getElem?_eq_getElem hi];rfl) :P:=h
theorem abA {P:Prop}(h:P:=by intro e;have:=congrArg List.length e;rw[List.length_drop,Ed]at this;simp at this;omega) :P:=h
theorem ab0 {cl:List Int} {nx:List Nat}(hc: ∀z∈cl,0≤z) :nx.map (fun x=>cl.getD x 0)=aH (nx.map (bn cl)) :=by
 unfold aH;rw[List.map_map];refine List.map_congr_left fun x _=> ?_;have h0:0≤cl.getD x 0:=by exact Zo
 show cl.getD x 0=((bn cl x:Nat) :Int);unfold bn;omega
theorem y8 {cl:List Int}(hc: ∀z∈cl,0≤z)(x:Nat) :cl.getD x 0=((bn cl x:Nat) :Int) :=by
 have h0:0≤cl.getD x 0:=by exact Zo
 unfold bn;omega
theorem Tn {bs:List Bool} {cl:List Int} {aB:List (List Nat)} {S a:Nat}(hc: ∀z∈cl,0≤z)(hS:(aB.getD a []).length=S) :zC bs cl (runs (aB.getD a [])) a=true↔((aM bs aB).fin a=false∧∀s,s<S→bn cl ((aM bs aB).nx a s)=bn cl a) :=by
 unfold zC;rw[Bool.and_eq_true,Bool.not_eq_true',Bool.not_eq_true',List.any_eq_false];show _↔(bs.getD a false=false∧∀s,s<S→bn cl ((aB.getD a []).getD s 0)=bn cl a);refine and_congr_right fun _=> ?_;constructor
 ·intro h s hs;have h1: ∀v∈aB.getD a [],cl.getD v 0=cl.getD a 0:=WH (P:=fun v=>cl.getD v 0=cl.getD a 0) (fun s hs=>by have:=h s hs;simpa using this);have h2:(aB.getD a []).getD s 0∈aB.getD a [] :=by rw[aab (l:=aB.getD a []),aat (by omega)];exact aaK _
  have:=h1 _ h2;rw[y8 hc,y8 hc]at this;omega
 ·intro h s hs;obtain⟨h1,_⟩ :=sj hs;obtain⟨j,hj⟩ :=List.mem_iff_getElem?.1 h1;have hjl:=(List.getElem?_eq_some_iff.1 hj).1;have:=h j (by omega);rw[aab (l:=aB.getD a []),hj]at this;simp only[aav]at this;rw[y8 hc,y8 hc,this];simp
def gG(parts:List (List Nat))(c:Nat) :Nat:=(parts.getD c []).getD 0 0
theorem zG {A:bK} {S n:Nat} {κ:Nat→Nat} {parts:List (List Nat)}(h:fQ A S n κ parts) {c:Nat}(hc:c<parts.length) :gG parts c<n∧κ (gG parts c)=c:=by
 obtain⟨h1,_,h2⟩ :=h.told c _ (aat hc);have e:parts.getD c []=parts[c] :=by rw[aab,aat hc];rfl
 have h3:gG parts c∈parts[c] :=by
  unfold gG;rw[e];cases hx:parts[c]with
  |nil=>exact absurd hx h1
  |cons q t=>simp
 exact(h2 _).1 h3
theorem TL {A:bK} {S n:Nat} {κ:Nat→Nat} {parts:List (List Nat)}(hs:Shut A S n)(h:fQ A S n κ parts)(hp:Parts A S n κ) {p:Nat→Bool} {z:Int}(hz:F9 p parts.length z)(hpd: ∀c,c<parts.length→(p c=true↔A.aW S (gG parts c)=bM)) : ∀q,q<n→(decide (z=((κ q:Nat) :Int))=true↔A.aW S q=bM) :=by
 intro q hq;have yE:=h.lt q hq;obtain⟨r1,r2⟩ :=zG h yE;have hl:A.aW S (gG parts (κ q))=A.aW S q:=(hp _ _ r1 hq).1 r2;rw[decide_eq_true_iff];constructor
 ·intro e;rcases hz with⟨h1,_⟩| ⟨k,hk,h1,h2,_⟩;·omega
  ·have ek:k=κ q:=by omega
   subst ek;rw[←hl];exact(hpd _ hk).1 h2
 ·intro e;have h1:p (κ q)=true:=(hpd _ yE).2 (by rw[hl,e]);rcases hz with⟨_,h2⟩| ⟨k,hk,h2,h3,h4⟩;·rw[h2 _ yE]at h1;cases h1
  ·obtain⟨k1,k2⟩ :=zG h hk;have h5:=(hpd k hk).1 h3;have h6:κ (gG parts k)=κ q:=(hp _ _ k1 hq).2 (by rw[h5,e]);rw[h2,←h6,k2]
end Go.Proofs.YtkbjimkngmlfcaaDoor
namespace Go.Proofs.YtkbjimkngmlfcaaDoor
open Go Go.RowKit
set_option linter.unusedVariables false
set_option linter.unusedSimpArgs false
def jU(sg:List Nat)(S k:Nat) :Nat:=if k<sg.length then sg.getD k 0 else S-1
def wL(A:bK)(sg:List Nat)(S:Nat) :bK:=⟨A.fin,fun q k=>A.nx q (jU sg S k)⟩
structure sG(sg:List Nat)(S:Nat) :Prop where
 pos:0<S
 lt: ∀k,jU sg S k<S
 onto: ∀s,s<S→∃k,k≤sg.length∧jU sg S k=s
theorem En(sg:List Nat)(S:Nat) :jU sg S sg.length=S-1:=by simp[jU]
theorem K3(A:bK)(sg:List Nat)(S:Nat) : ∀(w:List Nat)(q:Nat),(wL A sg S).acc q w=A.acc q (w.map (jU sg S))
 | [],_=>rfl
 |a::w,q=>K3 A sg S w _
theorem nR {A:bK} {sg:List Nat} {S:Nat}(h:sG sg S) {q:Nat} {w:List Nat}(hw: ∀a∈w,a<sg.length+1) :(wL A sg S).aW (sg.length+1) q w=A.aW S q (w.map (jU sg S)) :=by unfold bK.aW;rw[K3];exact aiI
theorem yQ {sg:List Nat} {S:Nat}(h:sG sg S) : ∀(v:List Nat),(∀a∈v,a<S)→∃w:List Nat,(∀a∈w,a<sg.length+1)∧w.map (jU sg S)=v
 | [],_=>⟨[],by simp,rfl⟩
 |a::v,hv=>by
  obtain⟨w,h1,h2⟩ :=yQ h v fun b hb=>hv b (by simp[hb]);obtain⟨k,hk,e⟩ :=h.onto a (hv a (by simp));refine⟨k::w,fun b hb=> ?_,by rw[List.map_cons,e,h2]⟩;rcases List.mem_cons.1 hb with rfl|hb;·omega
  ·exact h1 b hb
theorem UM {A:bK} {sg:List Nat} {S:Nat}(h:sG sg S) {q r:Nat} :(wL A sg S).aW (sg.length+1) q=(wL A sg S).aW (sg.length+1) r↔A.aW S q=A.aW S r:=by
 constructor
 ·intro e;funext v;by_cases hv: ∀a∈v,a<S;·obtain⟨w,h1,rfl⟩ :=yQ h v hv;rw[←nR h h1,←nR h h1,e]
  ·have:v.all (fun a=>decide (a<S))=false:=by exact XR
   unfold bK.aW;rw[this];rfl
 ·intro e;funext w;by_cases hw: ∀a∈w,a<sg.length+1;·rw[nR h hw,nR h hw,e]
  ·have:w.all (fun a=>decide (a<sg.length+1))=false:=by exact WR
   unfold bK.aW;rw[this];rfl
theorem Rq {A:bK} {sg:List Nat} {S:Nat}(h:sG sg S) {q:Nat} :(wL A sg S).aW (sg.length+1) q=bM↔A.aW S q=bM:=by
 constructor
 ·intro e;funext v;by_cases hv: ∀a∈v,a<S;·obtain⟨w,h1,rfl⟩ :=yQ h v hv;rw[←nR h h1,e];rfl
  ·have:v.all (fun a=>decide (a<S))=false:=by exact XR
   unfold bK.aW bM;rw[this];rfl
 ·intro e;funext w;by_cases hw: ∀a∈w,a<sg.length+1;·rw[nR h hw,e];rfl
  ·have:w.all (fun a=>decide (a<sg.length+1))=false:=by exact WR
   unfold bK.aW bM;rw[this];rfl
theorem Uu {A:bK} {sg:List Nat} {S n:Nat}(h:sG sg S)(hs:Shut A S n) :Shut (wL A sg S) (sg.length+1) n:=fun q a hq _=>hs q _ hq (h.lt a)
theorem RB {A:bK} {sg:List Nat} {S n:Nat} {κ:Nat→Nat}(h:sG sg S)(hp:Parts A S n κ) :Parts (wL A sg S) (sg.length+1) n κ:=fun q r hq hr=>(hp q r hq hr).trans (UM h).symm
structure JL(cs:List Int)(S:Nat) :Prop where
 len:cs.length=S
 pos:0<S
 bnd: ∀i,0≤cs.getD i 0∧cs.getD i 0≤1114112
 most:((cs.take (S-1)).sum:Int)<cs.getD (S-1) 0
theorem Hq {ks:List Nat} {cs:List Int}(hb: ∀i,0≤cs.getD i 0∧cs.getD i 0≤1114112)(c:Nat) : ∀i,0≤gQ ks cs i c∧gQ ks cs i c≤(cs.take i).sum
 |0=>by simp[gQ]
 |i+1=>by
  have h1:=Hq (ks:=ks) hb c i;have h2:=hb i;have e:(cs.take (i+1)).sum=(cs.take i).sum+cs.getD i 0:=by rw[List.take_add_one,aa1,aab];cases cs[i]?<;>simp
  unfold gQ;rw[e];split<;>omega
theorem SC {ks:List Nat} {cs:List Int} {S:Nat}(h:JL cs S)(hl:ks.length=S) :je ks cs ks.length=ks.getD (S-1) 0:=by
 obtain⟨m,rfl⟩ : ∃m,S=m+1:=⟨S-1,by have:=h.pos;omega⟩;have hmo:=h.most;rw[aaY]at hmo⊢;rw[hl];show(if gQ ks cs ks.length (je ks cs m)<gQ ks cs ks.length (ks.getD m 0)then ks.getD m 0 else je ks cs m)=_;by_cases e:je ks cs m=ks.getD m 0;·rw[e];simp
 ·rw[if_pos];rw[hl];have h1:=(Hq (ks:=ks) h.bnd (je ks cs m) m).2;have h2:=(Hq (ks:=ks) h.bnd (ks.getD m 0) m).1;unfold gQ;rw[if_pos rfl,if_neg (Ne.symm e)];omega
end Go.Proofs.YtkbjimkngmlfcaaDoor
namespace Go.Proofs.YtkbjimkngmlfcaaDoor
open Go Go.RowKit
set_option linter.unusedVariables false
set_option linter.unusedSimpArgs false
structure uH(ls kd:List Int)(k:Nat)(M:List Int)(sg:List Nat)(sm ct:List Int) :Prop where
 nd:M.Nodup
 ml:M.length≤k
 sl:sg.length=k
 I5:sm.length=M.length
 ctl:ct.length=M.length
 sym: ∀j,j<k→M[sg.getD j 0]?=some (kd.getD j 0)
 smp: ∀s,s<M.length→∃j,j<k∧sg.getD j 0=s∧sm.getD s 0=ls.getD j 0
 pos: ∀z∈ct,0≤z
 sum:ct.sum=(k:Int)
theorem uH.zero(ls kd:List Int) :uH ls kd 0 [] [] [] [] :=⟨by simp,by simp,rfl,rfl,rfl,fun j h=>by omega,fun s h=>by simp at h,by simp,by simp⟩
theorem NI: ∀(ct:List Int)(s:Nat)(z:Int),s<ct.length→(ct.set s z).sum=ct.sum-ct.getD s 0+z
 | [],s,z,h=>by simp at h
 |a::t,0,z,_=>by simp;omega
 |a::t,s+1,z,h=>by have:=NI t s z (by simpa using h);simp[this];omega
def Lv(x r:Int)(M sm ct sm' kV:List Int) :Prop:=(x∈M∧sm'=sm∧kV=ct)∨(x∉M∧sm'=sm++ [r]∧kV=ct++ [0])
theorem Lv.len {x r:Int} {M sm ct sm' kV:List Int}(h:Lv x r M sm ct sm' kV)(h1:sm.length=M.length)(h2:ct.length=M.length) :sm'.length=(meet M x).length∧kV.length=(meet M x).length:=by
 rcases h with⟨h,rfl,rfl⟩| ⟨h,rfl,rfl⟩;·rw[dZ h];exact⟨h1,h2⟩
 ·rw[cK h];simp[h1,h2]
theorem uH.step {ls kd:List Int} {k:Nat} {M:List Int} {sg:List Nat} {sm ct sm' kV:List Int}(h:uH ls kd k M sg sm ct)(hH:Lv (kd.getD k 0) (ls.getD k 0) M sm ct sm' kV) :uH ls kd (k+1) (meet M (kd.getD k 0)) (sg++ [ix (meet M (kd.getD k 0)) (kd.getD k 0)]) sm' (kV.set (ix (meet M (kd.getD k 0)) (kd.getD k 0)) (kV.getD (ix (meet M (kd.getD k 0)) (kd.getD k 0)) 0+1)) :=by
 obtain⟨r,hr⟩ :=ql M (kd.getD k 0);have hm:kd.getD k 0∈meet M (kd.getD k 0) :=jQ.2 (Or.inr rfl);have hat:=lK hm;have hlt:=lM hm;obtain⟨l1,l2⟩ :=hH.len h.I5 h.ctl;have hsg: ∀j,j<k→(sg++ [ix (meet M (kd.getD k 0)) (kd.getD k 0)]).getD j 0=sg.getD j 0:=fun j hj=>by rw[aab,aaL (by rw[h.sl];exact hj),←aab]
 have hsk:(sg++ [ix (meet M (kd.getD k 0)) (kd.getD k 0)]).getD k 0=ix (meet M (kd.getD k 0)) (kd.getD k 0) :=by rw[aab,aaT (by rw[h.sl];omega),h.sl];simp
 have hnn: ∀z∈kV,0≤z:=by
  rcases hH with⟨_,_,rfl⟩| ⟨_,_,rfl⟩;·exact h.pos
  ·intro z hz;rcases List.mem_append.1 hz with hz|hz;·exact h.pos z hz
   ·rw[List.mem_singleton.1 hz];omega
 have hcs:kV.sum=(k:Int) :=by
  rcases hH with⟨_,_,rfl⟩| ⟨_,_,rfl⟩;·exact h.sum
  ·rw[aa1,h.sum];simp
 refine⟨?_,?_,by simp[h.sl],l1,by rw[aa4];exact l2,fun j hj=> ?_,fun s hs=> ?_,fun z hz=> ?_,?_⟩
 ·rcases hH with⟨hx,_⟩| ⟨hx,_⟩;·rw[dZ hx];exact h.nd
  ·rw[cK hx,List.nodup_append];exact⟨h.nd,by simp,fun a ha b hb e=>hx (by rw[List.mem_singleton.1 hb]at e;rw[←e];exact ha)⟩
 ·rcases hH with⟨hx,_⟩| ⟨hx,_⟩;·rw[dZ hx];have:=h.ml;omega
  ·rw[cK hx];have:=h.ml;simp;omega
 ·by_cases e:j=k;·subst e;rw[hsk];exact hat
  ·rw[hsg j (by omega),hr];have:=h.sym j (by omega);rw[aaL (List.getElem?_eq_some_iff.1 this).1];exact this
 ·by_cases hsm:s<M.length
  ·obtain⟨j,q1,q2,q3⟩ :=h.smp s hsm;refine⟨j,by omega,by rw[hsg j q1];exact q2,?_⟩;rw[←q3];rcases hH with⟨_,rfl,_⟩| ⟨_,rfl,_⟩;·rfl
   ·rw[aab,aaL (by rw[h.I5];exact hsm),←aab]
  ·rcases hH with⟨hx,_⟩| ⟨hx,rfl,_⟩;·rw[dZ hx]at hs;exact absurd hs hsm
   ·rw[cK hx,aaR,aaF]at hs;obtain rfl:s=M.length:=by omega
    refine⟨k,by omega,by rw[hsk,cK hx,jr hx],?_⟩;rw[aab,←h.I5];simp
 ·have hl:=lM hm;rcases List.mem_or_eq_of_mem_set hz with hz|rfl;·exact hnn z hz
  ·have:0≤kV.getD (ix (meet M (kd.getD k 0)) (kd.getD k 0)) 0:=by
    rw[aab];cases hx:kV[ix (meet M (kd.getD k 0)) (kd.getD k 0)]? with
    |none=>simp
    |some z=>exact hnn z (aaE hx)
   omega
 ·rw[NI _ _ _ (by rw[l2];exact hlt),hcs];omega
theorem uH.amQ {ls kd:List Int} {k:Nat} {M:List Int} {sg:List Nat} {sm ct:List Int}(h:uH ls kd k M sg sm ct) :sG sg (M.length+1) :=by
 have hlt: ∀j,j<k→sg.getD j 0<M.length:=fun j hj=>(List.getElem?_eq_some_iff.1 (h.sym j hj)).1;refine⟨by omega,fun j=> ?_,fun s hs=> ?_⟩
 ·unfold jU;by_cases e:j<sg.length;·rw[if_pos e];have:=hlt j (by rw[←h.sl];exact e);omega
  ·rw[if_neg e];omega
 ·by_cases e:s<M.length;·obtain⟨j,q1,q2,_⟩ :=h.smp s e;exact⟨j,by rw[h.sl];omega,by unfold jU;rw[if_pos (by rw[h.sl];exact q1)];exact q2⟩
  ·exact⟨sg.length,aas _,by rw[En];omega⟩
theorem LZ: ∀(l:List Int),(∀z∈l,0≤z)→0≤l.sum∧∀z∈l,z≤l.sum
 | [],_=>by simp
 |a::t,hp=>by
  obtain⟨h0,h1⟩ :=LZ t fun z hz=>hp z (by simp[hz]);have ha:=hp a (by simp);refine⟨by simp;omega,fun z hz=> ?_⟩;rcases List.mem_cons.1 hz with rfl|hz;·simp;omega
  ·have:=h1 z hz;simp;omega
theorem uH.bnd {ls kd:List Int} {k:Nat} {M:List Int} {sg:List Nat} {sm ct sm' kV:List Int} {x r:Int}(h:uH ls kd k M sg sm ct)(hH:Lv x r M sm ct sm' kV)(s:Nat) :0≤kV.getD s 0∧kV.getD s 0≤(k:Int) :=by
 obtain⟨h0,h1⟩ :=LZ ct h.pos;rw[h.sum]at h0 h1;have hall: ∀z∈kV,0≤z∧z≤(k:Int) :=by
  rcases hH with⟨_,_,rfl⟩| ⟨_,_,rfl⟩;·exact fun z hz=>⟨h.pos z hz,h1 z hz⟩
  ·intro z hz;rcases List.mem_append.1 hz with hz|hz;·exact⟨h.pos z hz,h1 z hz⟩
   ·rw[List.mem_singleton.1 hz];omega
 rw[aab];cases hx:kV[s]? with
 |none=>simp
 |some z=>exact hall z (aaE hx)
theorem uH.ajH {ls kd:List Int} {k:Nat} {M:List Int} {sg:List Nat} {sm ct:List Int}(h:uH ls kd k M sg sm ct)(hk:k≤1000) :JL (ct++ [1112064-(k:Int)]) (M.length+1) :=by
 obtain⟨_,hle⟩ :=LZ ct h.pos;refine⟨by simp[h.ctl],by omega,fun i=> ?_,?_⟩
 ·rw[aab];cases hx:(ct++ [1112064-(k:Int)])[i]? with
  |none=>simp
  |some z=>
   rcases List.mem_append.1 (aaE hx)with hz|hz;·have:=hle z hz;have:=h.pos z hz;have:=h.sum;simp only[aav];omega
   ·rw[List.mem_singleton.1 hz];simp only[aav];omega
 ·rw[aaY,List.take_append_of_le_length (by rw[h.ctl];omega),List.take_of_length_le (by rw[h.ctl];omega),h.sum,aab,aaT (by rw[h.ctl];omega),h.ctl];simp;omega
end Go.Proofs.YtkbjimkngmlfcaaDoor
namespace Go.Proofs
open Go.Shelf
def Tryd.laysValid_ren:Go.Shelf.Ren:=⟨fun|196=>45|259=>63|n=>n,fun|9=>9|4=>4|3=>3|5=>5|12=>12|119=>109|0=>0|46=>113|139=>112|138=>111|53=>146|n=>n,fun|3=>0|4=>1|n=>n⟩
theorem Tryd.laysValid:Go.Proofs.Lays.n196 Tryd.prog Tryd.laysValid_ren:={
  mixed:=by kernel_rfl
  f196:=Tryd.func45.trans (congrArg some (by kernel_rfl))
  f259:=Tryd.func63.trans (congrArg some (by kernel_rfl))
  t0:=Tryd.underlying0
  a0:=Tryd.isAgg0
  z0:=Tryd.sizeOf0
  v0:=Tryd.zeroValue0
  t3:=Tryd.underlying3
  a3:=Tryd.isAgg3
  z3:=Tryd.sizeOf3
  v3:=Tryd.zeroValue3
  t4:=Tryd.underlying4
  a4:=Tryd.isAgg4
  z4:=Tryd.sizeOf4
  v4:=Tryd.zeroValue4
  t5:=Tryd.underlying5
  a5:=Tryd.isAgg5
  z5:=Tryd.sizeOf5
  v5:=Tryd.zeroValue5
  t9:=Tryd.underlying9
  a9:=Tryd.isAgg9
  z9:=Tryd.sizeOf9
  v9:=Tryd.zeroValue9
  t12:=Tryd.underlying12
  a12:=Tryd.isAgg12
  z12:=Tryd.sizeOf12
  v12:=Tryd.zeroValue12
  t46:=Tryd.underlying113
  a46:=Tryd.isAgg113
  z46:=Tryd.sizeOf113
  v46:=Tryd.zeroValue113
  t53:=Tryd.underlying146
  a53:=Tryd.isAgg146
  z53:=Tryd.sizeOf146
  v53:=Tryd.zeroValue146
  t119:=Tryd.underlying109
  a119:=Tryd.isAgg109
  z119:=Tryd.sizeOf109
  t138:=Tryd.underlying111
  a138:=Tryd.isAgg111
  z138:=Tryd.sizeOf111
  v138:=Tryd.zeroValue111
  t139:=Tryd.underlying112
  a139:=Tryd.isAgg112
  z139:=Tryd.sizeOf112
  v139:=Tryd.zeroValue112
  g3:=by kernel_rfl
  g4:=by kernel_rfl}
end Go.Proofs
namespace Go.Proofs.YtkbjimkngmlfcaaDoor
open Go
def bad(s:ByteArray)(p:Nat) :Prop:=(aaa s p).1=65533∧(aaa s p).2=1
instance(s:ByteArray)(p:Nat) :Decidable (bad s p) :=inferInstanceAs(Decidable (_∧_))
def aO(s:ByteArray)(p:Nat) :Int:=((s.get! p).toNat:Int)
theorem jZ(s:ByteArray)(p:Nat) :0≤aO s p∧aO s p≤255:=by have:=(s.get! p).toNat_lt;unfold aO;omega
theorem oD(s:ByteArray)(p:Nat)(h:p<s.size) :((s[p]'h).toNat:Int)=aO s p:=by
 have e:s.get! p=s[p]'h:=by simp[ByteArray.get!,getElem!_pos,h];rfl
 rw[aO,e]
def oW(s:ByteArray)(p:Nat) :Int:=if bad s p then 0 else((aaa s p).1:Int)
def nJ(s:ByteArray)(p:Nat) :Int:=if bad s p then 0 else((aaa s p).2:Int)
def eD(s:ByteArray)(p:Nat)(v0:Int) :Nat→Int
 |0=>v0
 |k+1=>if k=0 then v0 else eD s p v0 k*64+aO s (p+k)-128
theorem uZ(s:ByteArray)(p:Nat)(v0:Int) :eD s p v0 1=v0:=rfl
theorem iP(s:ByteArray)(p:Nat)(v0:Int)(k:Nat)(h:1≤k) :eD s p v0 (k+1)=eD s p v0 k*64+aO s (p+k)-128:=by show(if k=0 then _ else _)=_;rw[if_neg (by omega)]
def lW(s:ByteArray)(p k:Nat) :Prop:=∀j,1≤j→j<k→128≤aO s (p+j)∧aO s (p+j)≤191
theorem Ah(s:ByteArray)(p:Nat) :lW s p 1:=fun j h1 h2=>by omega
theorem MV(s:ByteArray)(p k:Nat)(h:lW s p k)(h1:128≤aO s (p+k))(h2:aO s (p+k)≤191) :lW s p (k+1) :=fun j a b=>by
 by_cases e:j=k;·subst e;exact⟨h1,h2⟩
 ·exact h j a (by omega)
theorem J2(s:ByteArray)(p:Nat)(v0:Int)(h0:0≤v0)(h1:v0≤31)(k:Nat)(hk:1≤k)(hk4:k≤4)(hc:lW s p k) :0≤eD s p v0 k∧eD s p v0 k≤8388607:=by
 have e1:=uZ s p v0;have e2:eD s p v0 2=eD s p v0 1*64+aO s (p+1)-128:=iP s p v0 1 (by omega);have e3:eD s p v0 3=eD s p v0 2*64+aO s (p+2)-128:=iP s p v0 2 (by omega);have e4:eD s p v0 4=eD s p v0 3*64+aO s (p+3)-128:=iP s p v0 3 (by omega);rcases(show k=1∨k=2∨k=3∨k=4 by omega)with rfl|rfl|rfl|rfl;·omega
 ·have:=hc 1 (by omega) (by omega);omega
 ·have:=hc 1 (by omega) (by omega);have:=hc 2 (by omega) (by omega);omega
 ·have:=hc 1 (by omega) (by omega);have:=hc 2 (by omega) (by omega);have:=hc 3 (by omega) (by omega);omega
theorem abQ(s:ByteArray)(p:Nat)(v0:Int)(h:v0≤31)(hc:lW s p 2) :eD s p v0 2<2048:=by have e2:eD s p v0 2=eD s p v0 1*64+aO s (p+1)-128:=iP s p v0 1 (by omega);have c1:=hc 1 (by omega) (by omega);rw[uZ]at e2;omega
theorem abP(s:ByteArray)(p:Nat)(v0:Int)(h:v0≤15)(hc:lW s p 3) :eD s p v0 3<65536:=by have e2:eD s p v0 2=eD s p v0 1*64+aO s (p+1)-128:=iP s p v0 1 (by omega);have e3:eD s p v0 3=eD s p v0 2*64+aO s (p+2)-128:=iP s p v0 2 (by omega);have c1:=hc 1 (by omega) (by omega);have c2:=hc 2 (by omega) (by omega);rw[uZ]at e2;omega
theorem nu(s:ByteArray)(p:Nat) :aaa s p=aaw (s.size-p) (s.get! p).toNat (s.get! (p+1)).toNat (s.get! (p+2)).toNat (s.get! (p+3)).toNat:=Lib.decode_at s p
theorem NQ(s:ByteArray)(p:Nat) :bad s p↔aaa s p=(65533,1) :=by
 unfold bad;constructor;·intro h;exact Prod.ext h.1 h.2
 ·intro h;rw[h];exact⟨rfl,rfl⟩
theorem xE(s:ByteArray)(p:Nat)(h:aaa s p=(65533,1)) :oW s p=0∧nJ s p=0:=by have hb:=(NQ s p).2 h;unfold oW nJ;rw[if_pos hb,if_pos hb];exact⟨rfl,rfl⟩
theorem uT(s:ByteArray)(p r n:Nat)(h:aaa s p=(r,n))(hn: ¬(r=65533∧n=1)) :oW s p=r∧nJ s p=n:=by
 have hb: ¬bad s p:=by rw[NQ,h];intro e;cases e;exact hn ⟨rfl,rfl⟩
 unfold oW nJ;rw[if_neg hb,if_neg hb,h];exact⟨rfl,rfl⟩
theorem amW(s:ByteArray)(p:Nat)(h:aO s p<128) :oW s p=aO s p∧nJ s p=1:=by
 unfold aO at*;have e:aaa s p=((s.get! p).toNat,1) :=by rw[nu];unfold aaw;rw[if_pos (by omega)]
 exact uT s p _ 1 e (by omega)
set_option maxHeartbeats 1000000 in theorem ahP(s:ByteArray)(p:Nat)(h:128≤aO s p)(h2:aO s p<192) :oW s p=0∧nJ s p=0:=by unfold aO at*;apply xE;exact Xi
set_option maxHeartbeats 1000000 in theorem yP(s:ByteArray)(p n:Nat)(h:(n=2∧192≤aO s p∧aO s p<224)∨(n=3∧224≤aO s p∧aO s p<240)∨(n=4∧240≤aO s p))(hbad:s.size<p+n∨∃j,1≤j∧j<n∧(aO s (p+j)<128∨191<aO s (p+j))) :oW s p=0∧nJ s p=0:=by
 apply xE;have b0:=jZ s p;have b1:=jZ s (p+1);have b2:=jZ s (p+2);have b3:=jZ s (p+3);have key:(n=2→s.size<p+2∨aO s (p+1)<128∨191<aO s (p+1))∧(n=3→s.size<p+3∨aO s (p+1)<128∨191<aO s (p+1)∨aO s (p+2)<128∨191<aO s (p+2))∧(n=4→s.size<p+4∨aO s (p+1)<128∨191<aO s (p+1)∨aO s (p+2)<128∨191<aO s (p+2)∨aO s (p+3)<128∨191<aO s (p+3)) :=by
  rcases hbad with hb| ⟨j,j1,j2,hj⟩;·exact QA
  ·rcases(show j=1∨j=2∨j=3 by omega)with rfl|rfl|rfl;·exact QA
   ·exact QA
   ·exact QA
 clear hbad;unfold aO at*;exact Xi
theorem an3(s:ByteArray)(p:Nat)(h:192≤aO s p)(h2:aO s p<224)(hs:p+2≤s.size)(hc:lW s p 2) :(128≤eD s p (aO s p-192) 2→oW s p=eD s p (aO s p-192) 2∧nJ s p=2)∧(eD s p (aO s p-192) 2<128→oW s p=0∧nJ s p=0) :=by
 have e2:eD s p (aO s p-192) 2=eD s p (aO s p-192) 1*64+aO s (p+1)-128:=iP _ _ _ 1 (by omega);rw[uZ]at e2;have c1:=hc 1 (by omega) (by omega);rw[e2];unfold aO at*;have ed:aaa s p=if(s.get! p).toNat %32*64+(s.get! (p+1)).toNat %64≥128 then((s.get! p).toNat %32*64+(s.get! (p+1)).toNat %64,2)else(65533,1) :=by rw[nu];unfold aaw;rw[if_neg (by omega),if_pos (by omega)]
 constructor;·intro hv;rw[if_pos (by omega)]at ed;have:=uT s p _ 2 ed (by omega);omega
 ·exact Rm
theorem amT(s:ByteArray)(p:Nat)(h:224≤aO s p)(h2:aO s p<240)(hs:p+3≤s.size)(hc:lW s p 3) :(2048≤eD s p (aO s p-224) 3∧ig (eD s p (aO s p-224) 3)=true→oW s p=eD s p (aO s p-224) 3∧nJ s p=3)∧(¬(2048≤eD s p (aO s p-224) 3∧ig (eD s p (aO s p-224) 3)=true)→oW s p=0∧nJ s p=0) :=by
 have e2:eD s p (aO s p-224) 2=eD s p (aO s p-224) 1*64+aO s (p+1)-128:=iP _ _ _ 1 (by omega);have e3:eD s p (aO s p-224) 3=eD s p (aO s p-224) 2*64+aO s (p+2)-128:=iP _ _ _ 2 (by omega);rw[uZ]at e2;rw[e2]at e3;have c1:=hc 1 (by omega) (by omega);have c2:=hc 2 (by omega) (by omega);rw[e3,jH];unfold aO at*;have ed:aaa s p=if(s.get! p).toNat %16*4096+(s.get! (p+1)).toNat %64*64+(s.get! (p+2)).toNat %64≥2048∧((s.get! p).toNat %16*4096+(s.get! (p+1)).toNat %64*64+(s.get! (p+2)).toNat %64<55296∨(57344≤(s.get! p).toNat %16*4096+(s.get! (p+1)).toNat %64*64+(s.get! (p+2)).toNat %64∧(s.get! p).toNat %16*4096+(s.get! (p+1)).toNat %64*64+(s.get! (p+2)).toNat %64≤1114111))then((s.get! p).toNat %16*4096+(s.get! (p+1)).toNat %64*64+(s.get! (p+2)).toNat %64,3)else(65533,1) :=by rw[nu];unfold aaw;rw[if_neg (by omega),if_neg (by omega),if_pos (by omega)]
 constructor;·intro hv;rw[if_pos (by omega)]at ed;have:=uT s p _ 3 ed (by omega);omega
 ·exact Rm
theorem anX(s:ByteArray)(p:Nat)(h:240≤aO s p)(hs:p+4≤s.size)(hc:lW s p 4) :(65536≤eD s p (aO s p-240) 4∧ig (eD s p (aO s p-240) 4)=true→oW s p=eD s p (aO s p-240) 4∧nJ s p=4)∧(¬(65536≤eD s p (aO s p-240) 4∧ig (eD s p (aO s p-240) 4)=true)→oW s p=0∧nJ s p=0) :=by
 have e2:eD s p (aO s p-240) 2=eD s p (aO s p-240) 1*64+aO s (p+1)-128:=iP _ _ _ 1 (by omega);have e3:eD s p (aO s p-240) 3=eD s p (aO s p-240) 2*64+aO s (p+2)-128:=iP _ _ _ 2 (by omega);have e4:eD s p (aO s p-240) 4=eD s p (aO s p-240) 3*64+aO s (p+3)-128:=iP _ _ _ 3 (by omega);rw[uZ]at e2;rw[e2]at e3;rw[e3]at e4;have c1:=hc 1 (by omega) (by omega);have c2:=hc 2 (by omega) (by omega);have c3:=hc 3 (by omega) (by omega);have bd:=jZ s p;rw[e4,jH];unfold aO at*;by_cases h8:(s.get! p).toNat<248
 ·have ed:aaa s p=if(s.get! p).toNat %8*262144+(s.get! (p+1)).toNat %64*4096+(s.get! (p+2)).toNat %64*64+(s.get! (p+3)).toNat %64≥65536∧((s.get! p).toNat %8*262144+(s.get! (p+1)).toNat %64*4096+(s.get! (p+2)).toNat %64*64+(s.get! (p+3)).toNat %64<55296∨(57344≤(s.get! p).toNat %8*262144+(s.get! (p+1)).toNat %64*4096+(s.get! (p+2)).toNat %64*64+(s.get! (p+3)).toNat %64∧(s.get! p).toNat %8*262144+(s.get! (p+1)).toNat %64*4096+(s.get! (p+2)).toNat %64*64+(s.get! (p+3)).toNat %64≤1114111))then((s.get! p).toNat %8*262144+(s.get! (p+1)).toNat %64*4096+(s.get! (p+2)).toNat %64*64+(s.get! (p+3)).toNat %64,4)else(65533,1) :=by rw[nu];unfold aaw;rw[if_neg (by omega),if_neg (by omega),if_neg (by omega),if_pos (by omega)]
  constructor;·intro hv;rw[if_pos (by omega)]at ed;have:=uT s p _ 4 ed (by omega);omega
  ·exact Rm
 ·have ed:aaa s p=(65533,1) :=by exact Xi
  exact⟨fun hv=>by exfalso;omega,fun _=>xE s p ed⟩
end Go.Proofs.YtkbjimkngmlfcaaDoor
namespace Go.Proofs.YtkbjimkngmlfcaaDoor
open Go
def runesFrom(s:ByteArray) :Nat→Nat→List Int
 |0,_=>[]
 |f+1,p=>if p<s.size then((aaa s p).1:Int) ::runesFrom s f (p+(aaa s p).2)else[]
def runes(s:ByteArray) :List Int:=runesFrom s s.size 0
def qb(s:ByteArray)(p:Nat) :Bool:=aa5 (s.data.toList.drop p)
def kC(s:ByteArray) :Bool:=aa5 s.data.toList
theorem Ed(s:ByteArray) :s.data.toList.length=s.size:=(Lib.size_eq s).symm
theorem PV(s:ByteArray) :qb s 0=kC s:=by simp[qb,kC]
theorem Sg(s:ByteArray)(p:Nat)(h: ¬p<s.size) :qb s p=true:=by have:s.data.toList.drop p= [] :=List.drop_of_length_le (by rw[Ed];omega);rw[qb,this];rfl
theorem GD(s:ByteArray)(p:Nat)(h:p<s.size) :qb s p=if bad s p then false else qb s (p+(aaa s p).2) :=by
 have hne:s.data.toList.drop p≠ [] :=by exact abA
 rw[qb,Lib.validD_step _ hne,aaU,List.drop_drop];rfl
theorem Vg(s:ByteArray)(p:Nat)(h:p<s.size)(hb:bad s p) :qb s p=false:=by rw[GD s p h,if_pos hb]
theorem QN(s:ByteArray)(p:Nat)(h:p<s.size)(hb: ¬bad s p) :qb s (p+(aaa s p).2)=qb s p:=by rw[GD s p h,if_neg hb]
theorem width_le(s:ByteArray)(p:Nat)(h:p<s.size) :1≤(aaa s p).2∧p+(aaa s p).2≤s.size:=by
 have hne:s.data.toList.drop p≠ [] :=by exact abA
 have h1:=Lib.decodeL_width (s.data.toList.drop p);have h2:=Lib.decodeL_le (s.data.toList.drop p) hne;rw[aaU]at h1 h2;rw[List.length_drop,Ed]at h2;omega
theorem rune_le(s:ByteArray)(p:Nat) :(aaa s p).1≤1114111:=by have:=Lib.decodeL_rune (s.data.toList.drop p);rw[aaU]at this;exact this
theorem runesFrom_end(s:ByteArray)(f p:Nat)(h: ¬p<s.size) :runesFrom s f p= [] :=by
 cases f with
 |zero=>rfl
 |succ f=>simp[runesFrom,h]
theorem zi(s:ByteArray)(f p:Nat)(h:p<s.size) :runesFrom s (f+1) p=((aaa s p).1:Int) ::runesFrom s f (p+(aaa s p).2) :=by simp[runesFrom,h]
theorem Cr(s:ByteArray) : ∀f p,(runesFrom s f p).length≤f
 |0,_=>by simp[runesFrom]
 |f+1,p=>by
  by_cases h:p<s.size;·rw[zi s f p h,List.length_cons];have:=Cr s f (p+(aaa s p).2);omega
  ·rw[runesFrom_end s _ p h];simp
theorem Wp(s:ByteArray) :(runes s).length≤s.size:=Cr s _ _
theorem WV(s:ByteArray)(p:Nat)(hb: ¬bad s p) :nJ s p=((aaa s p).2:Int) :=by rw[nJ,if_neg hb]
theorem XJ(s:ByteArray)(p:Nat)(hb: ¬bad s p) :oW s p=((aaa s p).1:Int) :=by rw[oW,if_neg hb]
theorem aci(s:ByteArray)(p:Nat)(hb:bad s p) :nJ s p=0:=by rw[nJ,if_pos hb]
def zN(s:ByteArray) :List Int:=if kC s=true then runes s else[]
def eO(s:ByteArray) :List Int:=if 65536<s.size then[]else zN s
def dG(s:ByteArray) :Int:=if 65536<s.size then 2 else if kC s=true then 0 else 3
end Go.Proofs.YtkbjimkngmlfcaaDoor
namespace Go.Proofs.YtkbjimkngmlfcaaDoor
open Go Go.RowKit
set_option linter.unusedVariables false
def Tabs(w:aal) :Prop:=Lib.Utf8Tabs (Tryd.laysValid_ren.g 3) (Tryd.laysValid_ren.g 4) w
theorem Tabs.below {w w':aal}(h:Tabs w)(hb:aar w.heap.size w w') :Tabs w':=Utf8Tabs_below h hb
theorem Vb(s:ByteArray)(w:aal)(hs:s.size≤1048576)(hT:Tabs w) :Calls Tryd.prog 45 #[.string s] w fun e w'=>e= .returned (.bool (kC s))∧aar w.heap.size w w':=Any.utf8_ValidString Tryd.laysValid s w (by omega) hT
end Go.Proofs.YtkbjimkngmlfcaaDoor
namespace Go.Proofs.YtkbjimkngmlfcaaDoor
open Go Go.RowKit
set_option linter.unusedVariables false
set_option maxHeartbeats 1000000 in theorem CR(s:ByteArray)(w:aal)(hs:s.size≤1048576)(hT:Tabs w) :Calls Tryd.prog 27 #[.string s] w fun e w'=>e= .returned (.int .i64 (dG s))∧aar w.heap.size w w':=by
 have HT:=ah hT;clear hT;by_cases hlong:65536<s.size
 ·have HC:Hid (dG s=2) :=by show _=_;rw[dG,if_pos hlong]
  have hlz:(65536:Int)<(s.size:Int) :=by omega
  go_enter Tryd.func27,Tryd.ntmps27;go_wp2;go_ret;rw[HC.out];exact⟨rfl,Below.refl _ _⟩
 ·have hlz: ¬(65536:Int)<(s.size:Int) :=by omega
  by_cases hv:kC s=true
  ·have HC:Hid (dG s=0) :=by show _=_;rw[dG,if_neg hlong,if_pos hv]
   exact ajn
  ·have hv':kC s=false:=by simpa using hv
   have HC:Hid (dG s=3) :=by show _=_;rw[dG,if_neg hlong,if_neg hv]
   clear hv;exact ajn
end Go.Proofs.YtkbjimkngmlfcaaDoor
namespace Go.Proofs.YtkbjimkngmlfcaaDoor
open Go Go.RowKit
set_option linter.unusedVariables false
set_option linter.unusedSimpArgs false
set_option maxRecDepth 100000
theorem Il(D:List aT)(r:Int) :bu D (-1) r= -1:=rfl
theorem BK(D:List aT)(i:Nat)(hi:i<D.length)(r:Int) :bu D (i:Int) r=match(D.getD i ps0).2.1.find? (fun a=>a.1==r)with|some a=>a.2|none=>(D.getD i ps0).2.2:=by unfold bu;exact Ze
theorem Wo {D:List aT}(hV:bP D) {z:Int}(h: -1≤z∧z<D.length)(r:Int) : -1≤bu D z r∧bu D z r<D.length:=by
 by_cases hz:z<0
 ·obtain rfl:z= -1:=by omega
  rw[Il];have:=hV.1;omega
 ·obtain⟨i,rfl⟩ : ∃i:Nat,z=(i:Int) :=⟨z.toNat,by omega⟩;have hi:i<D.length:=by omega
  rw[BK D i hi];have hm:D.getD i ps0∈D:=by rw[aab,aat hi];exact aaK hi
  obtain⟨⟨_,v1,_⟩,v2,v3⟩ :=hV.2.2 _ hm;cases hf:(D.getD i ps0).2.1.find? (fun a=>a.1==r)with
  |some a=>exact(v1 a (List.mem_of_find?_eq_some hf)).2
  |none=>exact⟨v2,v3⟩
set_option maxHeartbeats 4000000 in theorem BH(c:Nat)(a:Option Addr)(D:List aT)(z r:Int)(w:aal)(hV:bP D)(hz: -1≤z∧z<D.length)(h:dP w a D) :Calls Tryd.prog 36 #[.agg #[.slice a D.length c],.int .i64 z,.int .i64 r] w fun e w'=>e= .returned (.int .i64 (bu D z r))∧aar w.heap.size w w':=by
 have hb0:aar w.heap.size w (w.alloc (.cells #[.slice a D.length c] 25)) :=(Below.refl _ _).alloc (aas _) _;have hn0:=aaQ w (.cells #[.slice a D.length c] 25);have HB0:=ah hb0;by_cases hzn:z= -1;·subst hzn;clear h hV hz hn0 hb0;go_enter Tryd.func36,Tryd.ntmps36;go_wp2_with fail;go_ret;exact⟨rfl,HB0.out⟩
 ·obtain⟨i,rfl⟩ : ∃i:Nat,z=(i:Int) :=⟨z.toNat,by omega⟩;have hi:i<D.length:=by omega
  have hiz:(i:Int)<(D.length:Int) :=by omega
  have hne:((i:Int)== -1)=false:=by simp
  obtain⟨b,off,rfl,hb1,hc⟩ :=(h.below hb0).resolve_left (fun e=>by rw[e]at hi;simp at hi);obtain⟨x0,ai,ci,x1,hx,x2⟩ :=hc i hi;have hm:D.getD i ps0∈D:=by rw[aab,aat hi];exact aaK hi
  obtain⟨v1,v2,v3⟩ :=hV.2.2 _ hm;have fZ:=ah (BK D i hi r);have y0:(w.alloc (.cells #[.slice (some ⟨b,off,none⟩) D.length c] 25)).cell? ⟨w.heap.size,0,none⟩=some (.slice (some ⟨b,off,none⟩) D.length c) :=aj hn0 0;clear hc hm h hV hz hzn hn0 hb0 v2 v3;generalize D.getD i ps0=s at*;obtain⟨f,rs,z⟩ :=s;dsimp only at x0 x1 hx x2 v1 fZ;generalize hW1:w.alloc (.cells #[.slice (some ⟨b,off,none⟩) D.length c] 25)=W1 at*;obtain⟨W2,hW2⟩ : ∃W2,W1.alloc (.cells #[.bool f,.slice ai rs.length ci,.int .i64 z] 42)=W2:=⟨_,rfl⟩;have hb2:aar W1.heap.size W1 W2:=by rw[←hW2];exact(Below.refl _ _).alloc (aas _) _
  have hn2:W2.heap[W1.heap.size]?=some (.cells #[.bool f,.slice ai rs.length ci,.int .i64 z] 42) :=by rw[←hW2];exact aaQ _ _
  have jF:=ah (abT 53 (enters_of Tryd.func53 (by kernel_rfl) rfl) (fun a=>a.1) r ai ci rs W2 v1.2.2 (hx.below hb2) (fun W _ x=>Sl x.1 x.2 r W) v1.1);have uL:=ah (Qf rs r v1.1);have mV:=ah (below_le (fun a=>a.1) r rs);have y1:W2.cell? ⟨W1.heap.size,1,none⟩=some (.slice ai rs.length ci) :=aj hn2 1;have wE:=ah hn2;have HX:=ah (hx.below hb2);have HB2:=ah (HB0.out.trans (hb2.mono HB0.out.size));clear hx v1 hb2 hn2;go_enter Tryd.func36,Tryd.ntmps36;go_upto_region 4 with fail;try rw[hW2]
  clear hW2 x0 x1 x2 hW1 y0;go_wp2_with fail;refine jF.out.mono ?_;rintro e w3⟨rfl,hb3⟩;have y1':w3.cell? ⟨W1.heap.size,1,none⟩=some (.slice ai rs.length ci) :=aj (aC wE.out hb3) 1;have y2':w3.cell? ⟨W1.heap.size,2,none⟩=some (.int .i64 z) :=aj (aC wE.out hb3) 2;have HB3:=ah (HB2.out.trans (hb3.mono HB2.out.size));have hbl:=mV.out;have hx3:=HX.out.below hb3;have hfo:=uL.out;clear hb3 jF y1 uL HX mV;generalize below (fun a=>a.1) r rs=Bw at*;cases hf:rs.find? (fun a=>a.1==r)with
  |some p=>
   rw[hf]at hfo fZ;obtain⟨q1,q2⟩ :=hfo;dsimp only at fZ;have hBl:Bw<rs.length:=(List.getElem?_eq_some_iff.1 q2).1;have hBz:(Bw:Int)<(rs.length:Int) :=by omega
   obtain⟨ba,oa,rfl,hba,hca⟩ :=hx3.resolve_left (fun e=>by rw[e]at hBl;simp at hBl);have u1:=(hca Bw hBl).2;rw[aab,q2,aav]at u1;rw[q1];clear hca q1 q2 hf;go_wp2_with fail;go_ret;exact⟨by rw[fZ.out];rfl,HB3.out⟩
  |none=>rw[hf]at hfo fZ;dsimp only at hfo fZ;rw[hfo];clear hf hfo hx3;go_wp2_with fail;go_ret;exact⟨by rw[fZ.out];rfl,HB3.out⟩
theorem Af(c:Nat)(a:Option Addr)(D:List aT)(z:Int)(w:aal)(hz: -1≤z∧z<D.length)(h:dP w a D) :Calls Tryd.prog 38 #[.agg #[.slice a D.length c],.int .i64 z] w fun e w'=>e= .returned (.bool (fK D z))∧aar w.heap.size w w':=by
 have hb0:aar w.heap.size w (w.alloc (.cells #[.slice a D.length c] 25)) :=(Below.refl _ _).alloc (aas _) _;have hn0:=aaQ w (.cells #[.slice a D.length c] 25);have HB0:=ah hb0;by_cases hzn:z= -1;·subst hzn;clear h hz hn0 hb0;go_enter Tryd.func38,Tryd.ntmps38;go_wp2_with fail;go_ret;exact⟨rfl,HB0.out⟩
 ·obtain⟨i,rfl⟩ : ∃i:Nat,z=(i:Int) :=⟨z.toNat,by omega⟩;have hi:i<D.length:=by omega
  have hiz:(i:Int)<(D.length:Int) :=by omega
  have hne:((i:Int) != -1)=true:=by simp
  obtain⟨b,off,rfl,hb1,hc⟩ :=(h.below hb0).resolve_left (fun e=>by rw[e]at hi;simp at hi);obtain⟨x0,ai,ci,x1,hx,x2⟩ :=hc i hi;have U9:Hid (fK D (i:Int)=(D.getD i ps0).1) :=by show _=_;unfold fK;exact Ze
  have y0:(w.alloc (.cells #[.slice (some ⟨b,off,none⟩) D.length c] 25)).cell? ⟨w.heap.size,0,none⟩=some (.slice (some ⟨b,off,none⟩) D.length c) :=aj hn0 0;clear hc h hz hzn hn0 hb0 x1 hx x2;generalize(D.getD i ps0).1=f at*;go_enter Tryd.func38,Tryd.ntmps38;go_wp2_with fail;go_ret;exact⟨by rw[U9.out];rfl,HB0.out⟩
end Go.Proofs.YtkbjimkngmlfcaaDoor
namespace Go.Proofs.YtkbjimkngmlfcaaDoor
open Go Go.RowKit
set_option linter.unusedVariables false
set_option linter.unusedSimpArgs false
def xA(l:List (Int×Int))(r:Int) :Option (Int×Int) :=l.find? fun a=>a.1==r
def p9(l:List (Int×Int))(e r:Int) :Option Int:=match xA l r with
 |some a=>if a.2=e then none else some a.2
 |none=>none
def iV(S:List aT)(n:Nat)(r:Int) :List (Int×Int) :=(List.range n).flatMap fun q=>((p9 (S.getD q ps0).2.1 (S.getD q ps0).2.2 r).map fun tt=>((q:Int),tt)).toList
def lD(S:List aT)(i k:Nat)(r:Int) :List (Int×Int) :=iV S i r++((p9 ((S.getD i ps0).2.1.take k) (S.getD i ps0).2.2 r).map fun tt=>((i:Int),tt)).toList
theorem Av(S:List aT)(i:Nat)(r:Int) :lD S i 0 r=iV S i r:=by simp[lD,p9,xA]
theorem SL(S:List aT)(i:Nat)(r:Int) :lD S i (S.getD i ps0).2.1.length r=iV S (i+1) r:=by unfold lD iV;rw[List.take_length,List.range_succ,List.flatMap_append];simp
theorem zO(l:List (Int×Int))(a:Int×Int)(r:Int) :xA (l++ [a]) r=(xA l r).or (if a.1=r then some a else none) :=by unfold xA;rw[List.find?_append];congr 1;simp[List.find?_cons];split<;>simp_all
theorem Ga {l:List (Int×Int)} {r:Int}(h: ∀a∈l,a.1≠r) :xA l r=none:=by unfold xA;rw[List.find?_eq_none];intro a ha;simpa using h a ha
theorem OJ {l:List (Int×Int)}(hp:l.Pairwise fun x y=>x.1<y.1) {k:Nat}(hk:k<l.length) : ∀a∈l.take k,a.1≠(l.getD k (0,0)).1:=by intro a ha;obtain⟨j,hj,rfl⟩ :=List.mem_take_iff_getElem.1 ha;have:=List.pairwise_iff_getElem.1 hp j k (by omega) hk (by omega);rw[aab,aat hk];simp only[aav];omega
theorem Ac {l:List (Int×Int)} {k:Nat}(hk:k<l.length) :l.take (k+1)=l.take k++ [l.getD k (0,0)] :=by rw[List.take_succ_eq_append_getElem hk,aab,aat hk];rfl
theorem Nq {S:List aT} {i k:Nat}(hp:(S.getD i ps0).2.1.Pairwise fun x y=>x.1<y.1)(hk:k<(S.getD i ps0).2.1.length)(he:((S.getD i ps0).2.1.getD k (0,0)).2=(S.getD i ps0).2.2)(r:Int) :lD S i (k+1) r=lD S i k r:=by
 unfold lD p9;rw[Ac hk,zO];by_cases e:((S.getD i ps0).2.1.getD k (0,0)).1=r;·rw[Ga (l:=(S.getD i ps0).2.1.take k) (r:=r) (by rw[←e];exact OJ hp hk),if_pos e];show iV S i r++(aaA _ (if((S.getD i ps0).2.1.getD k (0,0)).2=(S.getD i ps0).2.2 then none else some _)).toList=iV S i r++(aaA _ (none:Option Int)).toList;rw[if_pos he]
 ·rw[if_neg e,aaV]
theorem Ni {S:List aT} {i k:Nat}(hk:k<(S.getD i ps0).2.1.length) {r:Int}(e:((S.getD i ps0).2.1.getD k (0,0)).1≠r) :lD S i (k+1) r=lD S i k r:=by unfold lD p9;rw[Ac hk,zO,if_neg e,aaV]
theorem UL {S:List aT} {i k:Nat}(hp:(S.getD i ps0).2.1.Pairwise fun x y=>x.1<y.1)(hk:k<(S.getD i ps0).2.1.length)(he:((S.getD i ps0).2.1.getD k (0,0)).2≠(S.getD i ps0).2.2) :lD S i (k+1) ((S.getD i ps0).2.1.getD k (0,0)).1=lD S i k ((S.getD i ps0).2.1.getD k (0,0)).1++ [((i:Int),((S.getD i ps0).2.1.getD k (0,0)).2)] :=by unfold lD p9;rw[Ac hk,zO,if_pos rfl,Ga (OJ hp hk)];show iV S i _++(aaA _ (if((S.getD i ps0).2.1.getD k (0,0)).2=(S.getD i ps0).2.2 then none else some _)).toList=(iV S i _++(aaA _ (none:Option Int)).toList)++_;rw[if_neg he,List.append_assoc];rfl
theorem FX {S:List aT} {n:Nat} {r r':Int}(h:iV S n r=iV S n r') : ∀q,q<n→p9 (S.getD q ps0).2.1 (S.getD q ps0).2.2 r=p9 (S.getD q ps0).2.1 (S.getD q ps0).2.2 r':=by
 have key: ∀(x:Int)(q:Nat)(tt:Int),q<n→(p9 (S.getD q ps0).2.1 (S.getD q ps0).2.2 x=some tt↔((q:Int),tt)∈iV S n x) :=by
  intro x q tt hq;unfold iV;rw[List.mem_flatMap];constructor;·intro e;exact⟨q,List.mem_range.2 hq,by rw[e];simp⟩
  ·rintro⟨p,_,hp⟩;cases e:p9 (S.getD p ps0).2.1 (S.getD p ps0).2.2 x with
   |none=>rw[e]at hp;simp at hp
   |some t=>
    rw[e]at hp;simp only[Option.map_some,Option.toList_some,List.mem_singleton,Prod.mk.injEq]at hp;obtain⟨h1,h2⟩ :=hp;obtain rfl:q=p:=by omega
    rw[e,h2]
 intro q hq;apply Option.ext;intro tt;rw[key r q tt hq,key r' q tt hq,h]
theorem xN(S:List aT)(i:Nat)(hi:i<S.length)(r:Int) :bu S (i:Int) r=(p9 (S.getD i ps0).2.1 (S.getD i ps0).2.2 r).getD (S.getD i ps0).2.2:=by
 rw[BK S i hi];unfold p9 xA;cases h:(S.getD i ps0).2.1.find? (fun a=>a.1==r)with
 |none=>rfl
 |some a=>
  show a.2=(if a.2=(S.getD i ps0).2.2 then none else some a.2).getD _;by_cases e:a.2=(S.getD i ps0).2.2;·rw[if_pos e,e];rfl
  ·rw[if_neg e];rfl
structure wO(ls:List Int)(L:Int→List (Int×Int))(Ps:List (Int×Int×Int))(kd:List Int) :Prop where
 len:kd.length=ls.length
 bnd: ∀t,t<ls.length→0≤kd.getD t 0∧kd.getD t 0≤Ps.length
 prs: ∀(n:Nat)p,Ps[n]?=some p→p.1≤Ps.length
 tl: ∃f:Int→List (Int×Int),f 0= []∧(∀(n:Nat)p,Ps[n]?=some p→f ((n:Int)+1)=f p.1++ [(p.2.1,p.2.2)])∧∀t,t<ls.length→f (kd.getD t 0)=L (ls.getD t 0)
theorem wO.zero(ls:List Int)(S:List aT) :wO ls (iV S 0) [] (aa3 ls.length 0) :=by
 have h0: ∀t,(aa3 ls.length (0:Int)).getD t 0=0:=fun t=>by rw[aab,List.getElem?_replicate];split<;>rfl
 exact⟨by simp,fun t _=>by rw[h0];simp,fun n p h=>by simp at h,fun _=>[],rfl,fun n p h=>by simp at h,fun t _=>by simp[iV]⟩
theorem wO.congr {ls:List Int} {L L':Int→List (Int×Int)} {Ps:List (Int×Int×Int)} {kd:List Int}(h:wO ls L Ps kd)(e: ∀t,t<ls.length→L' (ls.getD t 0)=L (ls.getD t 0)) :wO ls L' Ps kd:=by obtain⟨f,h1,h2,h3⟩ :=h.tl;exact⟨h.len,h.bnd,h.prs,f,h1,h2,fun t ht=>(h3 t ht).trans (e t ht).symm⟩
theorem wO.step {ls:List Int} {L L':Int→List (Int×Int)} {Ps:List (Int×Int×Int)} {kd:List Int}(h:wO ls L Ps kd)(hn:ls.Nodup) {t:Nat}(ht:t<ls.length) {i tt:Int}(hnew:L' (ls.getD t 0)=L (ls.getD t 0)++ [(i,tt)])(hoth: ∀u,u<ls.length→u≠t→L' (ls.getD u 0)=L (ls.getD u 0)) :wO ls L' (meet Ps (kd.getD t 0,i,tt)) (kd.set t ((ix (meet Ps (kd.getD t 0,i,tt)) (kd.getD t 0,i,tt) :Nat)+1)) :=by
 obtain⟨f,h1,h2,h3⟩ :=h.tl;have hg: ∀(u:Nat)(z:Int),(kd.set t z).getD u 0=if u=t then z else kd.getD u 0:=fun u z=>by
  by_cases e:u=t;·subst e;rw[if_pos rfl,aab,List.getElem?_set_self (by rw[h.len];exact ht)];rfl
  ·rw[if_neg e,aab,List.getElem?_set_ne (Ne.symm e),←aab]
 have hm:(kd.getD t 0,i,tt)∈meet Ps (kd.getD t 0,i,tt) :=jQ.2 (Or.inr rfl);have hlt:=lM hm;have hat:=lK hm;obtain⟨r,hr⟩ :=ql Ps (kd.getD t 0,i,tt);have hle:Ps.length≤(meet Ps (kd.getD t 0,i,tt)).length:=by rw[hr];simp
 refine⟨by rw[aa4];exact h.len,fun u hu=> ?_,fun n p hp=> ?_,?_⟩
 ·rw[hg];split;·constructor<;>omega
  ·have:=h.bnd u hu;omega
 ·by_cases hx:(kd.getD t 0,i,tt)∈Ps;·rw[dZ hx]at hp⊢;exact h.prs n p hp
  ·rw[cK hx]at hp⊢;rw[aaR];rcases List.mem_append.1 (aaE hp)with h4|h4;·obtain⟨j,hj⟩ :=List.mem_iff_getElem?.1 h4;have h5:=h.prs j p hj;rw[aaF];omega
   ·rw[List.mem_singleton.1 h4,aaF];have h5:=h.bnd t ht;dsimp only;omega
 ·by_cases hx:(kd.getD t 0,i,tt)∈Ps
  ·rw[dZ hx]at hat hlt⊢;refine⟨f,h1,h2,fun u hu=> ?_⟩;rw[hg];by_cases e:u=t;·subst e;rw[if_pos rfl,h2 _ _ hat,h3 u hu,hnew]
   ·rw[if_neg e,h3 u hu,hoth u hu e]
  ·rw[cK hx,jr hx];have hb:=h.bnd t ht;refine⟨fun z=>if z=(Ps.length:Int)+1 then f (kd.getD t 0)++ [(i,tt)]else f z,by dsimp only;rw[if_neg (by omega)];exact h1,fun n p hp=> ?_,fun u hu=> ?_⟩
   ·dsimp only;by_cases e:n<Ps.length;·rw[aaL e]at hp;have h5:=h.prs n p hp;rw[if_neg (by omega),h2 n p hp,if_neg (by omega)]
    ·have h6:=(List.getElem?_eq_some_iff.1 hp).1;rw[aaR,aaF]at h6;obtain rfl:n=Ps.length:=by omega
     rw[aaT (aas _),Nat.sub_self]at hp;obtain rfl:(kd.getD t 0,i,tt)=p:=by simpa using hp
     rw[if_pos rfl,if_neg (by dsimp only;omega)]
   ·rw[hg];dsimp only;by_cases e:u=t;·subst e;rw[if_pos rfl,if_pos rfl,h3 u hu,hnew]
    ·rw[if_neg e,if_neg (by have:=h.bnd u hu;omega),h3 u hu,hoth u hu e]
theorem wO.alike {ls:List Int} {L:Int→List (Int×Int)} {Ps:List (Int×Int×Int)} {kd:List Int}(h:wO ls L Ps kd) {t u:Nat}(ht:t<ls.length)(hu:u<ls.length)(e:kd.getD t 0=kd.getD u 0) :L (ls.getD t 0)=L (ls.getD u 0) :=by obtain⟨f,_,_,h3⟩ :=h.tl;rw[←h3 t ht,←h3 u hu,e]
end Go.Proofs.YtkbjimkngmlfcaaDoor
namespace Go.Proofs.YtkbjimkngmlfcaaDoor
open Go Go.RowKit
set_option linter.unusedVariables false
set_option linter.unusedSimpArgs false
set_option maxRecDepth 100000
def SE(w:aal)(v:Value)(ls kd:List Int)(e:Ending)(w':aal) :Prop:=∃vy vs vc M sg sm ct,e= .returned (.agg #[v,vy,vs,vc])∧uH ls kd ls.length M sg sm ct∧bD w' vy (aH sg)∧bD w' vs (sm++ [-1])∧bD w' vc (ct++ [1112064-(ls.length:Int)])∧aar w.heap.size w w'
theorem CZ {W:aal} {base:Nat} {v:Value} {zs:List Int}(h:W.ownsRow base 3 1 v zs.length (zI zs)) : ∃ad cap,v= .slice ad zs.length cap:=yZ h
set_option maxHeartbeats 8000000 in
theorem Ms (v kv : Value) (ls kd : List Int) (w : aal) (hl : ls.length ≤ 1000) (hkl : kd.length = ls.length) (hb : ∀ x ∈ kd, 0 ≤ x ∧ x ≤ 1114111) (h : bD w v ls) (hk : bD w kv kd) :
    Calls Tryd.prog 60 #[v, kv] w (SE w v ls kd) := by
  obtain ⟨i0, hi, hz0, hz1, hz2⟩ := info_parts Tryd.infoIntL
  obtain ⟨ad, cap, rfl, hcell⟩ := h
  obtain ⟨adk, Ho, rfl, U5⟩ := hk
  rw [hkl]
  have HC := ah hcell
  have HCk := ah U5
  have nQ := ah hkl
  have H0 := ah (XQ w (.slice ad ls.length cap))
  have jX := ah hb
  clear hcell U5 hb hkl
  go_enter Tryd.func60, Tryd.ntmps60
  go_wp2_with fail
  go_loopw [15] (fun iv wx => ∃ (k : Nat) (R : aU) (vy vs vc vm aI : Value) (M : List Int) (sg : List Nat) (sm ct : List Int), k ≤ ls.length ∧ iv = .int .i64 (k : Int) ∧ tK w wx (w.heap.size + 1) (w.heap.size + 2) #[.slice ad ls.length cap, vy, vs, vc] vm aI M R ∧ uH ls kd k M sg sm ct ∧ R 0 = some (vy, aH sg) ∧ R 1 = some (vs, sm) ∧ R 2 = some (vc, ct)) (fun iv _ => ls.length - (intOf iv).toNat)
  case atStart => exact ⟨0, _, _, _, _, _, _, [], [], [], [], Nat.zero_le _, rfl, H0.out, uH.zero _ _, rfl, rfl, rfl⟩
  case round =>
    obtain ⟨k, R, vy, vs, vc, vm, aI, M, sg, sm, ct, hk, rfl, hA, hI, hR0, rV, hR2⟩ := hrel
    have HA := ah hA
    have HI := ah hI
    obtain ⟨mZ, HR1, HR2⟩ : Hid (R 0 = some (vy, aH sg)) ∧ Hid (R 1 = some (vs, sm)) ∧ Hid (R 2 = some (vc, ct)) := ⟨hR0, rV, hR2⟩
    have hsz := hA.bel.size
    clear H0
    obtain ⟨wZ, xy, rfl⟩ : ∃ ad cp, vy = .slice ad k cp := by
      have := CZ (hA.rows.own 0 _ _ hR0)
      rwa [aK, hI.sl] at this
    obtain ⟨nM, NK⟩ : ∃ n, M.length = n := ⟨_, rfl⟩
    obtain ⟨FB, cps, rfl⟩ : ∃ ad cp, vs = .slice ad nM cp := by
      have := CZ (hA.rows.own 1 _ _ rV)
      rwa [hI.I5, NK] at this
    obtain ⟨adc, KP, rfl⟩ : ∃ ad cp, vc = .slice ad nM cp := by
      have := CZ (hA.rows.own 2 _ _ hR2)
      rwa [hI.ctl, NK] at this
    have hMk : nM ≤ k := by have := hI.ml; omega
    have UE := ah NK
    have hy0 : (aH sg).length = k := by rw [aK]; exact hI.sl
    have HY0 := ah hy0
    have xP : Hid (sm.length = nM) := hI.I5.trans NK
    have IK : Hid (ct.length = nM) := hI.ctl.trans NK
    clear hI hR0 rV hR2 NK hy0
    by_cases hlt : k < ls.length
    · have hkz : (k : Int) < (ls.length : Int) := by omega
      obtain ⟨g, off, rfl, hg, hcs⟩ := HC.out.resolve_left (fun e => by rw [e] at hlt; simp at hlt)
      obtain ⟨gk, qV, rfl, Dy, afn⟩ := HCk.out.resolve_left (fun e => by have := nQ.out; rw [e] at this; simp at this; omega)
      have c0 : wr.cell? ⟨g, off + k, none⟩ = some (.int .i64 (ls.getD k 0)) := (hA.bel.cell (p := ⟨g, off + k, none⟩) hg).trans (hcs k hlt)
      have ck : wr.cell? ⟨gk, qV + k, none⟩ = some (.int .i64 (kd.getD k 0)) := (hA.bel.cell (p := ⟨gk, qV + k, none⟩) Dy).trans (afn k (by rw [nQ.out]; exact hlt))
      have hxb : 0 ≤ kd.getD k 0 ∧ kd.getD k 0 ≤ 1114111 := by
        have e : k < kd.length := by rw [nQ.out]; exact hlt
        rw [aab, aat e]
        exact jX.out _ (aaK e)
      obtain ⟨x, hx⟩ : ∃ x, kd.getD k 0 = x := ⟨_, rfl⟩
      obtain ⟨r, hr⟩ := (⟨_, rfl⟩ : ∃ r, ls.getD k 0 = r)
      have HX := ah hx
      have HRr := ah hr
      rw [hx] at ck hxb
      rw [hr] at c0
      clear hcs afn hA hx hr
      have hx1 := hxb.1
      have hx2 := hxb.2
      clear hxb
      go_wp2_with fail
      refine (uW w.heap.size (w.heap.size + 2) vm aI M x _ ⟨by omega, by omega⟩ (by rw [UE.out]; omega) hsz HA.out.set).mono ?_
      rintro e w1 ⟨rfl, Dr, kP, hs1, xX, EK, -⟩
      have hA1 := HA.out.placed hs1 xX EK
      have HA1 := ah hA1
      have b3 := aj hA1.box 3
      have DY : Hid (upd R 3 (some (kP, meet M x)) 0 = some (.slice wZ k xy, aH sg)) := by show _ = _; rw [aD _ _ (by decide)]; exact mZ.out
      have Cw : Hid (upd R 3 (some (kP, meet M x)) 1 = some (.slice FB nM cps, sm)) := by show _ = _; rw [aD _ _ (by decide)]; exact HR1.out
      have OM : Hid (upd R 3 (some (kP, meet M x)) 2 = some (.slice adc nM KP, ct)) := by show _ = _; rw [aD _ _ (by decide)]; exact HR2.out
      obtain ⟨s, hs⟩ : ∃ s, ix (meet M x) x = s := ⟨_, rfl⟩
      have HSx := ah hs
      rw [hs]
      have qp : Hid ((x ∈ M → s < nM) ∧ (x ∉ M → s = nM)) := ⟨fun hx => by rw [← hs, dZ hx, ← UE.out]; exact lM hx, fun hx => by rw [← hs, cK hx, ← UE.out]; exact jr hx⟩
      clear hs1 xX EK hA1 HA mZ HR1 HR2 hs
      go_upto_if 29 with fail
      go_cut [] (fun wx => ∃ (R' : aU) (vs' vc' : Value) (sm' kV : List Int), tK w wx (w.heap.size + 1) (w.heap.size + 2) #[.slice (some ⟨g, off, none⟩) ls.length cap, .slice wZ k xy, vs', vc'] Dr kP (meet M x) R' ∧ R' 0 = some (.slice wZ k xy, aH sg) ∧ R' 1 = some (vs', sm') ∧ R' 2 = some (vc', kV) ∧ Lv x r M sm ct sm' kV)
      case first =>
        by_cases hx : x ∈ M
        · have hb : ((s : Int) == (nM : Int)) = false := by have := qp.out.1 hx; rw [beq_eq_false_iff_ne]; omega
          have HH : Hid (Lv x r M sm ct sm ct) := Or.inl ⟨hx, rfl, rfl⟩
          clear hx
          go_wp2_with fail
          go_meet
          case rel => exact ⟨_, _, _, sm, ct, HA1.out, DY.out, Cw.out, OM.out, HH.out⟩
        · have hb : ((s : Int) == (nM : Int)) = true := by have := qp.out.2 hx; rw [beq_iff_eq]; omega
          have HH : Hid (Lv x r M sm ct (sm ++ [r]) (ct ++ [0])) := Or.inr ⟨hx, rfl, rfl⟩
          have b2 := aj HA1.out.box 2
          have Ty := fun j => aap _ _ j _ _ HA1.out.box
          have jl : Hid (w1.ownsRow w.heap.size 3 1 (.slice FB nM cps) nM (zI sm)) := by
            have := HA1.out.rows.own 1 _ _ Cw.out
            rw [xP.out] at this; exact this
          have hz1' := HA1.out.bel.size
          clear hx c0 ck
          go_wp2_with (at_builtin; refine dm rfl _ _ 56 3 rfl i0 (.int .i64 0) 8 Tryd.underlying56 hi hz0 hz1 hz2 rfl w.heap.size _ _ _ rfl jl.out _ rfl rfl (by omega) (by decide) hz1' ?_)
          intro v2 w2 ho2 sK ni Ky
          obtain ⟨g2, c2, rfl⟩ := nZ ho2 Ky
          have cZ := HA1.out.push (i := 1) (by decide) (zs := sm) (x := r) Cw.out sK (by rw [xP.out]; exact ho2) ni 2
          have d2 := aj cZ.2 2
          have OH := aap _ _ 2 _ _ cZ.2
          have hA2 : tK w (w2.setCell ⟨w.heap.size + 1, 2, none⟩ (.slice (some ⟨g2, 0, none⟩) (nM + 1) c2)) (w.heap.size + 1) (w.heap.size + 2) #[.slice (some ⟨g, off, none⟩) ls.length cap, .slice wZ k xy, .slice (some ⟨g2, 0, none⟩) (nM + 1) c2, .slice adc nM KP] Dr kP (meet M x) (upd (upd R 3 (some (kP, meet M x))) 1 (some (.slice (some ⟨g2, 0, none⟩) (nM + 1) c2, sm ++ [r]))) := cZ.1
          have HA2 := ah hA2
          have e3 := aj hA2.box 3
          have hz2' := hA2.bel.size
          have UQ : Hid (upd (upd R 3 (some (kP, meet M x))) 1 (some (.slice (some ⟨g2, 0, none⟩) (nM + 1) c2, sm ++ [r])) 2 = some (.slice adc nM KP, ct)) := by show _ = _; rw [aD _ _ (by decide)]; exact OM.out
          have dO : Hid ((w2.setCell ⟨w.heap.size + 1, 2, none⟩ (.slice (some ⟨g2, 0, none⟩) (nM + 1) c2)).ownsRow w.heap.size 3 1 (.slice adc nM KP) nM (zI ct)) := by
            have := hA2.rows.own 2 _ _ UQ.out
            rw [IK.out] at this; exact this
          clear ho2 sK ni Ky cZ hA2 b2 b3 Ty jl HA1 hz1'
          go_upto_region 9 with fail
          clear d2 OH
          generalize w2.setCell ⟨w.heap.size + 1, 2, none⟩ (.slice (some ⟨g2, 0, none⟩) (nM + 1) c2) = W2 at *
          go_wp2_with (at_builtin; refine dm rfl _ _ 56 3 rfl i0 (.int .i64 0) 8 Tryd.underlying56 hi hz0 hz1 hz2 rfl w.heap.size _ _ _ rfl dO.out _ rfl rfl (by omega) (by decide) hz2' ?_)
          intro v3 w3 ho3 qc mJ wT
          obtain ⟨g3, c3, rfl⟩ := nZ ho3 wT
          have nL := HA2.out.push (i := 2) (by decide) (zs := ct) (x := 0) UQ.out qc (by rw [IK.out]; exact ho3) mJ 3
          have d3 := aj nL.2 3
          have fz3 := aap _ _ 3 _ _ nL.2
          have hA3 : tK w (w3.setCell ⟨w.heap.size + 1, 3, none⟩ (.slice (some ⟨g3, 0, none⟩) (nM + 1) c3)) (w.heap.size + 1) (w.heap.size + 2) #[.slice (some ⟨g, off, none⟩) ls.length cap, .slice wZ k xy, .slice (some ⟨g2, 0, none⟩) (nM + 1) c2, .slice (some ⟨g3, 0, none⟩) (nM + 1) c3] Dr kP (meet M x) (upd (upd (upd R 3 (some (kP, meet M x))) 1 (some (.slice (some ⟨g2, 0, none⟩) (nM + 1) c2, sm ++ [r]))) 2 (some (.slice (some ⟨g3, 0, none⟩) (nM + 1) c3, ct ++ [0]))) := nL.1
          have O0 := ah hA3
          clear ho3 qc mJ wT nL hA3 e3 dO HA2 hz2'
          go_wp2_with fail
          go_meet
          case rel => exact ⟨_, _, _, _, _, O0.out, by rw [aD _ _ (by decide), aD _ _ (by decide)]; exact DY.out, by rw [aD _ _ (by decide), upd_same], by rw [upd_same], HH.out⟩
      case rest =>
        rename aal => wx
        obtain ⟨R', vs', vc', sm', kV, hA', q0, q1, q2, hH⟩ := hcut
        have hzb := HI.out.bnd hH s
        have hIn := HI.out.step (sm' := sm') (kV := kV) (by rw [HX.out, HRr.out]; exact hH)
        rw [HX.out, HSx.out] at hIn
        have iY := ah hIn
        obtain ⟨hl1, hl2⟩ := hH.len (xP.out.trans UE.out.symm) (IK.out.trans UE.out.symm)
        have hsm : s < (meet M x).length := by rw [← HSx.out]; exact lM (jQ.2 (Or.inr rfl))
        obtain ⟨m2, hm2⟩ : ∃ m, (meet M x).length = m := ⟨_, rfl⟩
        rw [hm2] at hl1 hl2 hsm
        obtain ⟨adD, adb, rfl⟩ : ∃ ad cp, vc' = .slice ad m2 cp := by
          have := CZ (hA'.rows.own 2 _ _ q2)
          rwa [hl2] at this
        have asj : m2 ≤ k + 1 := by have := hIn.ml; omega
        have HL2 := ah hl2
        have O0 := ah hA'
        have f1 := aj hA'.box 1
        have Ty := fun j => aap _ _ j _ _ hA'.box
        have ai1 := hA'.bel.size
        have oM := ah q0
        have fu := ah q1
        have gZ := ah q2
        have iC : Hid (wx.ownsRow w.heap.size 3 1 (.slice wZ k xy) k (zI (aH sg))) := by
          have := hA'.rows.own 0 _ _ q0
          rw [HY0.out] at this; exact this
        clear hA' q0 q1 q2 hH hIn hl1 hl2 hm2 HA1 DY Cw OM b3 c0 ck
        go_wp2_with (at_builtin; refine dm rfl _ _ 56 3 rfl i0 (.int .i64 0) 8 Tryd.underlying56 hi hz0 hz1 hz2 rfl w.heap.size _ _ _ rfl iC.out _ rfl rfl (by omega) (by decide) ai1 ?_)
        intro v4 w4 gY dH fD Bp
        obtain ⟨g4, c4, rfl⟩ := nZ gY Bp
        have Iz := O0.out.push (i := 0) (by decide) (zs := aH sg) (x := (s : Int)) oM.out dH (by rw [HY0.out]; exact gY) fD 1
        have d4 := aj Iz.2 1
        have Tf := aap _ _ 1 _ _ Iz.2
        have UR : tK w (w4.setCell ⟨w.heap.size + 1, 1, none⟩ (.slice (some ⟨g4, 0, none⟩) (k + 1) c4)) (w.heap.size + 1) (w.heap.size + 2) #[.slice (some ⟨g, off, none⟩) ls.length cap, .slice (some ⟨g4, 0, none⟩) (k + 1) c4, vs', .slice adD m2 adb] Dr kP (meet M x) (upd R' 0 (some (.slice (some ⟨g4, 0, none⟩) (k + 1) c4, aH sg ++ [(s : Int)]))) := Iz.1
        have HA4 := ah UR
        have p3 := aj UR.box 3
        have hR4 : (upd R' 0 (some (.slice (some ⟨g4, 0, none⟩) (k + 1) c4, aH sg ++ [(s : Int)]))) 2 = some (.slice adD m2 adb, kV) := by rw [aD _ _ (by decide)]; exact gZ.out
        have nW := UR.rows.own 2 _ _ hR4
        rw [HL2.out] at nW
        obtain ⟨g3, c3, he3⟩ := dA nW (by omega)
        simp only [Value.slice.injEq] at he3
        obtain ⟨rfl, -, rfl⟩ := he3
        obtain ⟨z, hz⟩ : ∃ z, kV.getD s 0 = z := ⟨_, rfl⟩
        have q3 : (w4.setCell ⟨w.heap.size + 1, 1, none⟩ (.slice (some ⟨g4, 0, none⟩) (k + 1) c4)).cell? ⟨g3, s, none⟩ = some (.int .i64 z) := aQ nW (by
          unfold zI
          rw [List.getElem?_map, ← hz, aab, aat (by rw [HL2.out]; exact hsm)]
          rfl)
        obtain ⟨_, ash, aic⟩ := aA nW (b := g3) rfl
        have fq3 := aap _ _ s _ _ aic
        rw [hz] at hzb
        have HA5 := ah (UR.put (i := 2) (by decide) HL2.out hR4 (k := s) hsm (z + 1))
        have LV : Hid (aH sg ++ [(s : Int)] = aH (sg ++ [s])) := by show _ = _; rw [iL]; rfl
        have HZ := ah hz
        have hz0' := hzb.1
        have hz1' := hzb.2
        have hsz1 : (s : Int) < (m2 : Int) := by omega
        clear gY dH fD Bp Iz UR f1 Ty iC O0 ai1 nW aic hR4 hz hzb
        go_upto_region 11 with fail
        clear d4 Tf HA4
        generalize w4.setCell ⟨w.heap.size + 1, 1, none⟩ (.slice (some ⟨g4, 0, none⟩) (k + 1) c4) = W4 at *
        go_wp2_with fail
        go_roundw
        case rel => exact ⟨k + 1, _, _, _, _, _, _, _, _, _, _, by omega, by go_num, HA5.out, by have := iY.out; rw [HZ.out] at this; exact this, by rw [aD _ _ (by decide), upd_same, LV.out], by rw [aD _ _ (by decide), aD _ _ (by decide)]; exact fu.out, by rw [upd_same]⟩
        case measure => simp [intOf]; omega
    · have hkz : ¬ (k : Int) < (ls.length : Int) := by omega
      obtain rfl : k = ls.length := by omega
      have hAx := HA.out
      have b1 := aj hAx.box 1
      have b2 := aj hAx.box 2
      have b3 := aj hAx.box 3
      have Ty := fun j => aap _ _ j _ _ hAx.box
      obtain ⟨T, hT, hT0⟩ : ∃ T : Int, 1112064 - (ls.length : Int) = T ∧ T > 0 := ⟨_, rfl, by omega⟩
      have HTT := ah hT
      have jl : Hid (wr.ownsRow w.heap.size 3 1 (.slice FB nM cps) nM (zI sm)) := by
        have := hAx.rows.own 1 _ _ HR1.out
        rw [xP.out] at this; exact this
      clear hAx hkz hlt
      go_wp2_with (at_builtin; refine dm rfl _ _ 56 3 rfl i0 (.int .i64 0) 8 Tryd.underlying56 hi hz0 hz1 hz2 rfl w.heap.size _ _ _ rfl jl.out _ rfl rfl (by omega) (by decide) hsz ?_)
      intro v2 w2 ho2 sK ni Ky
      obtain ⟨g2, c2, rfl⟩ := nZ ho2 Ky
      have cZ := HA.out.push (i := 1) (by decide) (zs := sm) (x := -1) HR1.out sK (by rw [xP.out]; exact ho2) ni 2
      have d2 := aj cZ.2 2
      have OH := aap _ _ 2 _ _ cZ.2
      have hA2 : tK w (w2.setCell ⟨w.heap.size + 1, 2, none⟩ (.slice (some ⟨g2, 0, none⟩) (nM + 1) c2)) (w.heap.size + 1) (w.heap.size + 2) #[.slice ad ls.length cap, .slice wZ ls.length xy, .slice (some ⟨g2, 0, none⟩) (nM + 1) c2, .slice adc nM KP] vm aI M (upd R 1 (some (.slice (some ⟨g2, 0, none⟩) (nM + 1) c2, sm ++ [-1]))) := cZ.1
      have HA2 := ah hA2
      have e3 := aj hA2.box 3
      have hz2' := hA2.bel.size
      have UQ : Hid (upd R 1 (some (.slice (some ⟨g2, 0, none⟩) (nM + 1) c2, sm ++ [-1])) 2 = some (.slice adc nM KP, ct)) := by show _ = _; rw [aD _ _ (by decide)]; exact HR2.out
      have dO : Hid ((w2.setCell ⟨w.heap.size + 1, 2, none⟩ (.slice (some ⟨g2, 0, none⟩) (nM + 1) c2)).ownsRow w.heap.size 3 1 (.slice adc nM KP) nM (zI ct)) := by
        have := hA2.rows.own 2 _ _ UQ.out
        rw [IK.out] at this; exact this
      clear ho2 sK ni Ky cZ hA2 b1 b2 b3 Ty jl HA
      go_upto_region 16 with fail
      clear d2 OH
      generalize w2.setCell ⟨w.heap.size + 1, 2, none⟩ (.slice (some ⟨g2, 0, none⟩) (nM + 1) c2) = W2 at *
      go_wp2_with (at_builtin; refine dm rfl _ _ 56 3 rfl i0 (.int .i64 0) 8 Tryd.underlying56 hi hz0 hz1 hz2 rfl w.heap.size _ _ _ rfl dO.out _ rfl rfl (by omega) (by decide) hz2' ?_)
      intro v3 w3 ho3 qc mJ wT
      obtain ⟨g3, c3, rfl⟩ := nZ ho3 wT
      have nL := HA2.out.push (i := 2) (by decide) (zs := ct) (x := T) UQ.out qc (by rw [IK.out]; exact ho3) mJ 3
      have d3 := aj nL.2 3
      have fz3 := aap _ _ 3 _ _ nL.2
      have hA3 : tK w (w3.setCell ⟨w.heap.size + 1, 3, none⟩ (.slice (some ⟨g3, 0, none⟩) (nM + 1) c3)) (w.heap.size + 1) (w.heap.size + 2) #[.slice ad ls.length cap, .slice wZ ls.length xy, .slice (some ⟨g2, 0, none⟩) (nM + 1) c2, .slice (some ⟨g3, 0, none⟩) (nM + 1) c3] vm aI M (upd (upd R 1 (some (.slice (some ⟨g2, 0, none⟩) (nM + 1) c2, sm ++ [-1]))) 2 (some (.slice (some ⟨g3, 0, none⟩) (nM + 1) c3, ct ++ [T]))) := nL.1
      have hrw := hA3.rows
      have hy := (hrw.own 0 _ (aH sg) (by rw [aD _ _ (by decide), aD _ _ (by decide)]; exact mZ.out))
      have hs := (hrw.own 1 _ (sm ++ [-1]) (by rw [aD _ _ (by decide), upd_same]))
      have hc := (hrw.own 2 _ (ct ++ [T]) (by rw [upd_same]))
      have x9 := hA3.FP
      have hbl := hA3.bel
      have n0 := aj hA3.box 0
      have n1 := aj hA3.box 1
      have n2 := aj hA3.box 2
      have n3 := aj hA3.box 3
      have r0 := aj x9 0
      have r1 := aj x9 1
      have r2 := aj x9 2
      have r3 := aj x9 3
      have TD := fun j => aap _ _ j _ _ x9
      have HY := ah hy
      have HS := ah hs
      have KM := ah hc
      have HZr := ah x9
      have mV := ah hbl
      clear ho3 qc mJ wT nL hA3 e3 dO HA2 hz2' hrw hy hs hc x9 hbl
      go_upto_region 17 with fail
      clear d3 fz3
      generalize w3.setCell ⟨w.heap.size + 1, 3, none⟩ (.slice (some ⟨g3, 0, none⟩) (nM + 1) c3) = W3 at *
      have pg := ah (LH HZr.out (.slice ad ls.length cap) (.slice wZ ls.length xy) (.slice (some ⟨g2, 0, none⟩) (nM + 1) c2) (.slice (some ⟨g3, 0, none⟩) (nM + 1) c3))
      go_wp2_with fail
      have q0 := aj pg.out 0
      have q1 := aj pg.out 1
      have q2 := aj pg.out 2
      have q3 := aj pg.out 3
      have hbf : aar w.heap.size w _ := (((mV.out.setCell (p := ⟨w.heap.size, 0, none⟩) (aas _) (.slice ad ls.length cap)).setCell (p := ⟨w.heap.size, 1, none⟩) (aas _) (.slice wZ ls.length xy)).setCell (p := ⟨w.heap.size, 2, none⟩) (aas _) (.slice (some ⟨g2, 0, none⟩) (nM + 1) c2)).setCell (p := ⟨w.heap.size, 3, none⟩) (aas _) (.slice (some ⟨g3, 0, none⟩) (nM + 1) c3)
      have keep : ∀ (u : Value) (zs : List Int), W3.ownsRow w.heap.size 3 1 u zs.length (zI zs) → ((((W3.setCell ⟨w.heap.size, 0, none⟩ (.slice ad ls.length cap)).setCell ⟨w.heap.size, 1, none⟩ (.slice wZ ls.length xy)).setCell ⟨w.heap.size, 2, none⟩ (.slice (some ⟨g2, 0, none⟩) (nM + 1) c2)).setCell ⟨w.heap.size, 3, none⟩ (.slice (some ⟨g3, 0, none⟩) (nM + 1) c3)).ownsRow w.heap.size 3 1 u zs.length (zI zs) := fun u zs hu => aG hu (fun b hk => by
        obtain ⟨_, cur, h2⟩ := aA hu hk
        have hne := aN h2 HZr.out (by decide)
        rw [ay _ _ _ _ _ hne, ay _ _ _ _ _ hne, ay _ _ _ _ _ hne, ay _ _ _ _ _ hne])
      have HFin : Hid (SE w (.slice ad ls.length cap) ls kd (.returned (.agg #[.slice ad ls.length cap, .slice wZ ls.length xy, .slice (some ⟨g2, 0, none⟩) (nM + 1) c2, .slice (some ⟨g3, 0, none⟩) (nM + 1) c3])) _) := ⟨_, _, _, M, sg, sm, ct, rfl, HI.out, bD.own (keep _ _ HY.out), bD.own (keep _ _ HS.out), by rw [HTT.out]; exact bD.own (keep _ _ KM.out), hbf⟩
      clear hbf keep pg HY HS KM n0 n1 n2 n3 r0 r1 r2 r3 TD mV HZr
      generalize (((W3.setCell ⟨w.heap.size, 0, none⟩ (.slice ad ls.length cap)).setCell ⟨w.heap.size, 1, none⟩ (.slice wZ ls.length xy)).setCell ⟨w.heap.size, 2, none⟩ (.slice (some ⟨g2, 0, none⟩) (nM + 1) c2)).setCell ⟨w.heap.size, 3, none⟩ (.slice (some ⟨g3, 0, none⟩) (nM + 1) c3) = Wf at *
      refine bodyPost_ret (v := .agg #[.slice ad ls.length cap, .slice wZ ls.length xy, .slice (some ⟨g2, 0, none⟩) (nM + 1) c2, .slice (some ⟨g3, 0, none⟩) (nM + 1) c3]) (by simp [results, Tryd.results60, go_sem, *]) rfl ?_
      exact HFin.out
end Go.Proofs.YtkbjimkngmlfcaaDoor
