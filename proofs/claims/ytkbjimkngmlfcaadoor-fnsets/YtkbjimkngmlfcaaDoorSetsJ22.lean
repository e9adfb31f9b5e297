import Derived.Test.YtkbjimkngmlfcaaDoorSetsJ16
open BitVec renaming ofInt→aal
open Go renaming Value→aaa,TypeId→aab,ofInt_u64→aah
open List renaming range→aar,length_append→aaw,length_singleton→aav
open Nat renaming le_refl→aau,lt_pow_two_of_testBit→aat,testBit_eq_decide_div_mod_eq→aas,two_pow_add_eq_or_of_lt→aap
namespace Go.Proofs.YtkbjimkngmlfcaaDoor
open Go Go.RowKit
set_option linter.unusedVariables false
set_option linter.unusedSimpArgs false
set_option maxRecDepth 100000
theorem abq {P:Prop}(h:P:=by obtain⟨i,h1,h2,h3,h4⟩ :=Be h;exact⟨i,h1,h2,fun a=>by have:=h3 a;omega,h4⟩) :P:=h
section
variable {T:List Int} {lp:Nat→Bool}
end
def one(x c:Int) :Bool:=x== -1 ||x==c
def seg:List Int→List Int→Bool
 | [],_=>true
 |_::_,[]=>false
 |x::s,c::t=>one x c&&seg s t
def gr:List (List Int)→List Int→Bool
 | [],_=>true
 |s::r,[]=>if seg s []then gr r []else false
 |s::r,c::u=>if seg s (c::u)then gr r ((c::u).drop s.length)else gr (s::r) u termination_by l u=>(l.length,u.length)
def wM(x:Int) :Int:=if x=42 then-2 else if x=63 then-1 else x
def dn:List Int→List Int
 | []=>[]
 | [x]=>[wM x]
 |x::c::t=>if x=92 then c::dn t else wM x::dn (c::t)termination_by l=>l.length
theorem zH:dn []= [] :=by rw[dn]
theorem Gg(x:Int) :dn [x]= [wM x] :=by rw[dn]
theorem FY(c:Int)(t:List Int) :dn (92::c::t)=c::dn t:=by rw[dn];simp
theorem pX {x:Int} {t:List Int}(h:x≠92∨t= []) :dn (x::t)=wM x::dn t:=by
 cases t with
 |nil=>rw[Gg,zH]
 |cons c t=>
  rw[dn,if_neg];intro e;rcases h with h|h;·exact h e
  ·cases h
def xS:Bool→List Int→List Int
 |false,[]=>[]
 |true,[]=>[92]
 |true,c::t=>c::xS false t
 |false,x::t=>if x=92 then xS true t else wM x::xS false t
theorem Le: ∀(n:Nat)(l:List Int),l.length≤n→xS false l=dn l
 |_,[],_=>by rw[zH];rfl
 |0,x::t,h=>by simp at h
 |n+1,[x],h=>by
  rw[Gg];by_cases e:x=92;·subst e;simp[xS,wM]
  ·simp[xS,e]
 |n+1,x::c::t,h=>by
  by_cases e:x=92;·subst e;rw[FY];have:=Le n t (by simp at h;omega);simp[xS,this]
  ·rw[pX (Or.inl e)];have:=Le n (c::t) (by simp at h⊢;omega);rw[←this];simp[xS,e]
theorem UA(l:List Int) :xS false l=dn l:=Le _ l (aau _)
theorem Px(l:List Int) :(dn l).length≤l.length:=by
 have: ∀(b:Bool)(l:List Int),(xS b l).length≤l.length+(if b then 1 else 0) :=by
  intro b l;induction l generalizing b with
  |nil=>cases b<;>simp[xS]
  |cons x t ih=>
   cases b with
   |true=>have:=ih false;simp[xS]at this⊢;omega
   |false=>
    by_cases e:x=92;·have:=ih true;simp[xS,e]at this⊢;omega
    ·have:=ih false;simp[xS,e]at this⊢;omega
 have:=this false l;rw[UA]at this;simpa using this
def ahead(c:List Int)(l:List (List Int)) :List (List Int) :=(c++l.headD []) ::l.tail
def iX(P:List Int)(x:Nat) :Nat→Nat
 |0=>x
 |k+1=>if(iX P x k).testBit k=true∧P.getD k 0= -2 then iX P x k |||2^(k+1)else iX P x k
def ko(P:List Int)(x:Nat)(r:Int) :Nat→Nat
 |0=>0
 |k+1=>if x.testBit k=true then(if P.getD k 0= -2 then ko P x r k |||2^k else if one (P.getD k 0) r=true then ko P x r k |||2^(k+1)else ko P x r k)else ko P x r k
theorem or_bit(s k j:Nat) :(s |||2^k).testBit j=true↔s.testBit j=true∨k=j:=by rw[Nat.testBit_or,Nat.testBit_two_pow,Bool.or_eq_true,decide_eq_true_eq]
theorem Be {P:List Int} {x:Nat} : ∀ {k j:Nat},(iX P x k).testBit j=true→∃i,i≤j∧x.testBit i=true∧(i<j→j≤k)∧∀m,i≤m→m<j→P.getD m 0= -2
 |0,j,h=>⟨j,aau _,h,fun h=>absurd h (by omega),fun m a b=>absurd a (by omega)⟩
 |k+1,j,h=>by
  rw[iX]at h;split at h
  ·rename_i hc;rcases(or_bit _ _ _).1 h with h|rfl;·exact abq
   ·obtain⟨i,h1,h2,h3,h4⟩ :=Be hc.1;refine⟨i,by omega,h2,fun _=>by omega,fun m a b=> ?_⟩;by_cases e:m=k;·rw[e];exact hc.2
    ·exact h4 m a (by omega)
  ·exact abq
theorem NY {P:List Int} {x:Nat} {r:Int} : ∀ {k j:Nat},(ko P x r k).testBit j=true↔∃i,i<k∧x.testBit i=true∧((P.getD i 0= -2∧j=i)∨(P.getD i 0≠ -2∧one (P.getD i 0) r=true∧j=i+1))
 |0,j=>by simp[ko]
 |k+1,j=>by
  have ih:=NY (P:=P) (x:=x) (r:=r) (k:=k) (j:=j);have acR:(∃i,i<k+1∧x.testBit i=true∧((P.getD i 0= -2∧j=i)∨(P.getD i 0≠ -2∧one (P.getD i 0) r=true∧j=i+1)))↔(ko P x r k).testBit j=true∨(x.testBit k=true∧((P.getD k 0= -2∧j=k)∨(P.getD k 0≠ -2∧one (P.getD k 0) r=true∧j=k+1))) :=by
   rw[ih];constructor
   ·rintro⟨i,h1,h2⟩;by_cases e:i=k;·subst e;exact Or.inr h2
    ·exact Or.inl ⟨i,by omega,h2⟩
   ·rintro(⟨i,h1,h2⟩|h);·exact⟨i,by omega,h2⟩
    ·exact⟨k,by omega,h⟩
  rw[acR,ko];by_cases h1:x.testBit k=true
  ·rw[if_pos h1];by_cases h2:P.getD k 0= -2;·rw[if_pos h2,or_bit];simp only[h1,h2,true_and,ne_eq,not_true,false_and,or_false];exact or_congr Iff.rfl eq_comm
   ·rw[if_neg h2];by_cases h3:one (P.getD k 0) r=true;·rw[if_pos h3,or_bit];simp only[h1,h2,h3,true_and,ne_eq,not_false_eq_true,false_and,false_or];exact or_congr Iff.rfl eq_comm
    ·rw[if_neg h3];refine⟨Or.inl,fun h=> ?_⟩;rcases h with h| ⟨_,⟨h,_⟩| ⟨_,h,_⟩⟩;·exact h
     ·exact absurd h h2
     ·exact absurd h h3
  ·rw[if_neg h1];exact⟨Or.inl,fun h=>h.elim id fun h=>absurd h.1 h1⟩
def wsK(P:List Int)(f:Nat→Int) :bN Nat:=⟨fun x a=>iX P (ko P x (f a) P.length) P.length,fun x=>x.testBit P.length⟩
theorem Hl {P:List Int} {x k:Nat}(hx:x<2^(P.length+1))(hk:k≤P.length) :iX P x k<2^(P.length+1) :=by
 refine aat _ fun j hj=> ?_;cases hb:(iX P x k).testBit j with
 |false=>rfl
 |true=>
  obtain⟨i,h1,h2,h3,_⟩ :=Be hb;have h4:=Nat.ge_two_pow_of_testBit h2;by_cases hij:i<j;·have:=h3 hij;omega
  ·have:=Nat.pow_le_pow_right (show 0<2 by omega) (show P.length+1≤i by omega);omega
theorem KQ {P:List Int} {x k:Nat} {r:Int}(hk:k≤P.length) :ko P x r k<2^(P.length+1) :=by
 refine aat _ fun j hj=> ?_;cases hb:(ko P x r k).testBit j with
 |false=>rfl
 |true=>obtain⟨i,h1,_,h3⟩ :=NY.1 hb;rcases h3 with⟨_,h⟩| ⟨_,_,h⟩<;>omega
section
variable {T:List Int} {L:Nat} {C:Nat→Nat} {g:Nat→Int}
end
def oK(Z:List Nat)(h:Nat) :List Nat:=(aar Z.length).filter fun j=>decide (Z.getD j 0 %4093=h)
theorem abK {Z:List Nat} {h j:Nat} :j∈oK Z h↔j<Z.length∧Z.getD j 0 %4093=h:=by simp[oK]
theorem zW(Z:List Nat)(s:Nat)(h:Nat) :oK (Z++ [s]) h=if s %4093=h then oK Z h++ [Z.length]else oK Z h:=by
 have e: ∀j∈aar Z.length,decide ((Z++ [s]).getD j 0 %4093=h)=decide (Z.getD j 0 %4093=h) :=by exact afy
 unfold oK;rw[aaw,aav,List.range_succ,List.filter_append,List.filter_congr e];by_cases hh:s %4093=h;·simp[hh]
 ·simp[hh]
theorem Ov(Z:List Nat)(h:Nat) :(oK Z h).length≤Z.length:=by have:=List.length_filter_le (fun j=>decide (Z.getD j 0 %4093=h)) (aar Z.length);simpa[oK]using this
structure Wz(w0 W:World)(tb rb gb:Nat)(vl vf vn vp vs:aaa)(P ls:List Int)(Z Zb:List Nat)(aB:List (List Nat))(ns:List aaa)(ak:List Bool)(R:aU) :Prop where
 below:Below w0.heap.size w0 W
 low:w0.heap.size≤tb∧w0.heap.size≤rb∧w0.heap.size≤gb
 res:W.heap[tb]?=some (.cells #[.slice none 0 0] 25)
 bW:W.heap[rb]?=some (.cells #[vl,vf,vn] 60)
 rows:aY W w0.heap.size R
 mE:R 0=some (vl,ls)
 prt:R 1=some (vp,P)
 sets:R 3=some (vs,aH Z)
 bk: ∃bs:Array aaa,W.heap[gb]?=some (.cells bs 56)∧bs.size=4093∧∀h,h<4093→∃u,bs[h]?=some u∧R (4+2*h)=some (u,aH (oK Zb h))
 nx:W.ownsRow w0.heap.size 56 1 vn aB.length ns
 zu: ∀(j:Nat)u s,ns[j]?=some u→aB[j]?=some s→R (5+2*j)=some (u,aH s)
 apart:vn.ownBlock≠some gb
 fin:W.ownsRow w0.heap.size 4 1 vf ak.length (ak.map Value.bool)
section
variable {w0 W W':World} {tb rb gb:Nat} {vl vf vn vp vs:aaa} {P ls:List Int} {Z Zb:List Nat} {aB:List (List Nat)} {ns:List aaa} {ak:List Bool} {R R':aU}
theorem Wz.keep(h:Wz w0 W tb rb gb vl vf vn vp vs P ls Z Zb aB ns ak R)(hb:Below W.heap.size W W') :Wz w0 W' tb rb gb vl vf vn vp vs P ls Z Zb aB ns ak R:=by obtain⟨bs,b1,b2,b3⟩ :=h.bk;exact⟨h.below.trans (hb.mono h.below.size),h.low,aC h.res hb,aC h.bW hb,h.rows.below hb,h.mE,h.prt,h.sets,⟨bs,aC b1 hb,b2,b3⟩,own_below h.nx hb,h.zu,h.apart,own_below h.fin hb⟩
theorem Wz.ints(h:Wz w0 W tb rb gb vl vf vn vp vs P ls Z Zb aB ns ak R) {vs':aaa} {Z':List Nat}(hB:Below w0.heap.size w0 W')(hk: ∀(b:Nat)(cs:Array aaa)(t:aab),t≠3→W.heap[b]?=some (.cells cs t)→W'.heap[b]?=some (.cells cs t))(hR:aY W' w0.heap.size R')(ho: ∀a,a≠2→a≠3→R' a=R a)(hs:R' 3=some (vs',aH Z')) :Wz w0 W' tb rb gb vl vf vn vp vs' P ls Z' Zb aB ns ak R':=by
 obtain⟨bs,b1,b2,b3⟩ :=h.bk;refine⟨hB,h.low,hk _ _ _ (by decide) h.res,hk _ _ _ (by decide) h.bW,hR,by rw[ho 0 (by omega) (by omega)];exact h.mE,by rw[ho 1 (by omega) (by omega)];exact h.prt,hs,⟨bs,hk _ _ _ (by decide) b1,b2,fun x hx=> ?_⟩,?_,fun j u z h1 h2=>by rw[ho _ (by omega) (by omega)];exact h.zu j u z h1 h2,h.apart,?_⟩;·obtain⟨u,h1,h2⟩ :=b3 x hx;exact⟨u,h1,by rw[ho _ (by omega) (by omega)];exact h2⟩
 ·exact aam
 ·exact aaN
theorem Wz.TE(h:Wz w0 W tb rb gb vl vf vn vp vs P ls Z Zb aB ns ak R) {u u':aaa} {zs ys:List Int}(hi:R 2=some (u,zs))(hg:But (fun b=>u.ownBlock=some b) W W')(hv:W'.ownsRow w0.heap.size 3 1 u' ys.length (zI ys))(hat: ∀b,u'.ownBlock=some b→u.ownBlock=some b∨W.heap.size≤b) :Wz w0 W' tb rb gb vl vf vn vp vs P ls Z Zb aB ns ak (upd R 2 (some (u',ys))) :=by have ho:=h.rows.own 2 u zs hi;refine h.ints (h.below.trans (hg.below h.below.size (fun j hj e=>by have:=(aA ho e).1;omega))) (fun b cs t ht hh=> ?_) (h.rows.uS hi hg hv hat) (fun a h2 h3=>aD _ _ h2) (by rw[aD _ _ (by omega)];exact h.sets);exact YQ
theorem Wz.ajI(h:Wz w0 W tb rb gb vl vf vn vp vs P ls Z Zb aB ns ak R)(hb:Below W.heap.size W W') {v:aaa} {zs:List Int}(hv:W'.ownsRow W.heap.size 3 1 v zs.length (zI zs)) :Wz w0 W' tb rb gb vl vf vn vp vs P ls Z Zb aB ns ak (upd R 2 (some (v,zs))) :=h.ints (h.below.trans (hb.mono h.below.size)) (fun b cs t _ hh=>aC hh hb) (h.rows.new hb h.below.size hv) (fun a h2 h3=>aD _ _ h2) (by rw[aD _ _ (by omega)];exact h.sets)
theorem Wz.acp(h:Wz w0 W tb rb gb vl vf vn vp vs P ls Z Zb aB ns ak R) {u':aaa} {x:Nat}(hg:But (fun b=>vs.ownBlock=some b) W W')(hv:W'.ownsRow w0.heap.size 3 1 u' ((aH Z).length+1) (zI (aH Z)++ [.int .i64 (x:Int)]))(hat: ∀b,u'.ownBlock=some b→vs.ownBlock=some b∨W.heap.size≤b) : ∃R',(∀a,a≠3→R' a=R a)∧Wz w0 W' tb rb gb vl vf vn vp u' P ls (Z++ [x]) Zb aB ns ak R':=by
 have ho:=h.rows.own 3 vs _ h.sets;have e:zI (aH Z)++ [.int .i64 (x:Int)]=zI (aH (Z++ [x])) :=by rw[iL,nD];rfl
 have e2:(aH Z).length+1=(aH (Z++ [x])).length:=by rw[aK,aK];simp
 rw[e,e2]at hv;refine⟨_,fun a ha=>aD _ _ ha,h.ints (h.below.trans (hg.below h.below.size (fun j hj e=>by have:=(aA ho e).1;omega))) (fun b cs t ht hh=> ?_) (h.rows.uS h.sets hg hv hat) (fun a h2 h3=>aD _ _ h3) (upd_same _ _ _)⟩;exact YQ
theorem Wz.EU(h:Wz w0 W tb rb gb vl vf vn vp vs P ls Z Zb aB ns ak R) {y x:Nat} {u u':aaa}(hx:x<4093)(hs:y %4093=x)(hu:R (4+2*x)=some (u,aH (oK Zb x)))(hb:But (fun b=>u.ownBlock=some b) W W')(ho:W'.ownsRow w0.heap.size 3 1 u' ((aH (oK Zb x)).length+1) (zI (aH (oK Zb x))++ [.int .i64 (Zb.length:Int)]))(hat: ∀b,u'.ownBlock=some b→u.ownBlock=some b∨W.heap.size≤b) :(∃R',(∀a,a≠4+2*x→R' a=R a)∧Wz w0 (W'.setCell ⟨gb,x,none⟩ u') tb rb gb vl vf vn vp vs P ls Z (Zb++ [y]) aB ns ak R')∧∃bs:Array aaa,W'.heap[gb]?=some (.cells bs 56)∧bs[x]?=some u:=by
 obtain⟨bs,b1,b2,b3⟩ :=h.bk;have e0:zI (aH (oK Zb x))++ [.int .i64 (Zb.length:Int)]=zI (aH (oK (Zb++ [y]) x)) :=by rw[zW,if_pos hs,iL,nD];rfl
 have e1:(aH (oK Zb x)).length+1=(aH (oK (Zb++ [y]) x)).length:=by rw[aK,aK,zW,if_pos hs];simp
 rw[e0,e1]at ho;have hR2:=h.rows.uS hu hb ho hat;have kp: ∀(b:Nat)(cs:Array aaa)(t:aab),t≠3→W.heap[b]?=some (.cells cs t)→W'.heap[b]?=some (.cells cs t) :=by intro b cs t ht hh;rw[hb.block b (Array.getElem?_eq_some_iff.1 hh).1 (fun e=>by obtain⟨_,cur,h2⟩ :=aA (h.rows.own _ _ _ hu) e;exact bU hh h2 ht rfl)];exact hh
 have ER:=kp _ _ _ (by decide) b1;have CO:Below w0.heap.size w0 W':=h.below.trans (hb.below h.below.size (fun i hi e=>by have:=(aA (h.rows.own _ _ _ hu) e).1;omega));have hB2:But (fun b=>b=gb) W' (W'.setCell ⟨gb,x,none⟩ u') :=(But.refl _ _).set gb x u' rfl;have IX:=hR2.but hB2 (fun b e cur hc=>by subst e;exact bU ER hc (by decide) rfl);have ks: ∀(b:Nat)(cs:Array aaa)(t:aab),t≠56→W'.heap[b]?=some (.cells cs t)→(W'.setCell ⟨gb,x,none⟩ u').heap[b]?=some (.cells cs t) :=fun b cs t ht hh=>by rw[ay W' gb x u' b (bU hh ER ht)];exact hh
 have hux:bs[x]?=some u:=by obtain⟨v,h1,h2⟩ :=b3 x hx;rw[h2]at hu;simp only[Option.some.injEq,Prod.mk.injEq,and_true]at hu;rw[h1,hu]
 refine⟨⟨_,fun a ha=>aD _ _ ha,⟨?_,h.low,ks _ _ _ (by decide) (kp _ _ _ (by decide) h.res),ks _ _ _ (by decide) (kp _ _ _ (by decide) h.bW),IX,?_,?_,?_,⟨bs.setIfInBounds x u',aL ER x u',by simpa using b2,?_⟩,?_,?_,h.apart,?_⟩⟩,bs,ER,hux⟩;·exact CO.trans (hB2.below CO.size (fun i hi e=>by have:=h.low;omega))
 ·rw[aD _ _ (by omega)];exact h.mE
 ·rw[aD _ _ (by omega)];exact h.prt
 ·rw[aD _ _ (by omega)];exact h.sets
 ·intro z hz;by_cases e:z=x;·subst e;exact⟨u',by simp[b2,hz],by rw[upd_same]⟩
  ·obtain⟨v,h1,h2⟩ :=b3 z hz;refine⟨v,by rw[Array.getElem?_setIfInBounds_ne (Ne.symm e)];exact h1,?_⟩;rw[aD _ _ (by omega),h2,zW,if_neg (by rw[hs];exact Ne.symm e)]
 ·refine aG h.nx (fun b hbk=> ?_);obtain⟨_,cur,h2⟩ :=aA h.nx hbk;rw[ay W' gb x u' b (by rintro rfl;exact h.apart hbk),kp b cur _ (by decide) h2,h2]
 ·intro j v t h1 h2;rw[aD _ _ (by omega)];exact h.zu j v t h1 h2
 ·refine aG h.fin (fun b hbk=> ?_);obtain⟨_,cur,h2⟩ :=aA h.fin hbk;rw[ks b cur _ (by decide) (kp b cur _ (by decide) h2),h2]
theorem Wz.zy(h:Wz w0 W tb rb gb vl vf vn vp vs P ls Z Zb aB ns ak R) {vt pI:aaa} {s:List Nat}(hg:R 2=some (vt,aH s))(hb:But (fun b=>vn.ownBlock=some b) W W')(ho:W'.ownsRow w0.heap.size 56 1 pI (aB.length+1) (ns++ [vt]))(hat: ∀b,pI.ownBlock=some b→vn.ownBlock=some b∨W.heap.size≤b) :(∃R',Wz w0 (W'.setCell ⟨rb,2,none⟩ pI) tb rb gb vl vf pI vp vs P ls Z Zb (aB++ [s]) (ns++ [vt]) ak R')∧W'.heap[rb]?=some (.cells #[vl,vf,vn] 60) :=by
 have AY:ns.length=aB.length:=by have:=h.nx.1;omega
 obtain⟨bs,b1,b2,b3⟩ :=h.bk;have ae0:=(Array.getElem?_eq_some_iff.1 b1).1;have hk: ∀(b:Nat)(cs:Array aaa)(t:aab),vn.ownBlock≠some b→W.heap[b]?=some (.cells cs t)→W'.heap[b]?=some (.cells cs t) :=by exact Wx
 have ht: ∀(b:Nat)(cs:Array aaa)(t:aab),t≠56→W.heap[b]?=some (.cells cs t)→W'.heap[b]?=some (.cells cs t) :=by exact adh
 have hr1:=ht _ _ _ (by decide) h.bW;refine⟨⟨upd (upd R (5+2*aB.length) (some (vt,aH s))) 2 none,?_⟩,hr1⟩;have hset: ∀(b:Nat)(cs:Array aaa)(t:aab),t≠60→W'.heap[b]?=some (.cells cs t)→(W'.setCell ⟨rb,2,none⟩ pI).heap[b]?=some (.cells cs t) :=by exact aaz
 have hbs:But (fun b=>b=rb) W' (W'.setCell ⟨rb,2,none⟩ pI) :=(But.refl _ _).set rb 2 pI rfl;have hrn:=(((h.rows.but hb (lI h.nx (by decide))).but hbs (fun b e cur hh=>by subst e;exact bU hr1 hh (by decide) rfl))).rename (j:=5+2*aB.length) hg (by omega);have hR: ∀a,a≠2→a≠5+2*aB.length→upd (upd R (5+2*aB.length) (some (vt,aH s))) 2 none a=R a:=fun a h1 h2=>by rw[aD _ _ h1,aD _ _ h2]
 have hB1:=h.below.trans (hb.below h.below.size (fun i hi e=>by have:=(aA h.nx e).1;omega));refine⟨hB1.trans (hbs.below hB1.size (fun i hi e=>by have:=h.low;omega)),h.low,hset _ _ _ (by decide) (ht _ _ _ (by decide) h.res),by have:=aL hr1 2 pI;simpa using this,hrn,by rw[hR 0 (by omega) (by omega)];exact h.mE,by rw[hR 1 (by omega) (by omega)];exact h.prt,by rw[hR 3 (by omega) (by omega)];exact h.sets,⟨bs,hset _ _ _ (by decide) (hk _ _ _ h.apart b1),b2,fun x hx=> ?_⟩,?_,fun j u t h1 h2=> ?_,?_,?_⟩;·obtain⟨u,h1,h2⟩ :=b3 x hx;exact⟨u,h1,by rw[hR _ (by omega) (by omega)];exact h2⟩
 ·rw[aaw,aav];exact Xh
 ·exact ai0
 ·intro e;rcases hat gb e with h1|h1;·exact h.apart h1
  ·omega
 ·exact ZN
theorem Wz.sH(h:Wz w0 W tb rb gb vl vf vn vp vs P ls Z Zb aB ns ak R) {vY:aaa} {f:Bool}(hb:But (fun b=>vf.ownBlock=some b) W W')(ho:W'.ownsRow w0.heap.size 4 1 vY (ak.length+1) (ak.map Value.bool++ [.bool f])) :Wz w0 (W'.setCell ⟨rb,1,none⟩ vY) tb rb gb vl vY vn vp vs P ls Z Zb aB ns (ak++ [f]) R∧W'.heap[rb]?=some (.cells #[vl,vf,vn] 60) :=by
 obtain⟨bs,b1,b2,b3⟩ :=h.bk;have ht: ∀(b:Nat)(cs:Array aaa)(t:aab),t≠4→W.heap[b]?=some (.cells cs t)→W'.heap[b]?=some (.cells cs t) :=by exact ae5
 have hr1:=ht _ _ _ (by decide) h.bW;refine⟨?_,hr1⟩;have hset: ∀(b:Nat)(cs:Array aaa)(t:aab),t≠60→W'.heap[b]?=some (.cells cs t)→(W'.setCell ⟨rb,1,none⟩ vY).heap[b]?=some (.cells cs t) :=by exact ZW
 have hbs:But (fun b=>b=rb) W' (W'.setCell ⟨rb,1,none⟩ vY) :=(But.refl _ _).set rb 1 vY rfl;have hrn:=((h.rows.but hb (lI h.fin (by decide))).but hbs (fun b e cur hh=>by subst e;exact bU hr1 hh (by decide) rfl));have hB1:=h.below.trans (hb.below h.below.size (fun i hi e=>by have:=(aA h.fin e).1;omega));refine⟨hB1.trans (hbs.below hB1.size (fun i hi e=>by have:=h.low;omega)),h.low,hset _ _ _ (by decide) (ht _ _ _ (by decide) h.res),by have:=aL hr1 1 vY;simpa using this,hrn,h.mE,h.prt,h.sets,⟨bs,hset _ _ _ (by decide) (ht _ _ _ (by decide) b1),b2,b3⟩,?_,h.zu,h.apart,?_⟩;·exact aaD
 ·exact ZG
theorem Wz.raw(h:Wz w0 W tb rb gb vl vf vn vp vs P ls Z Zb aB ns ak R)(hl:aB.length=ak.length)(hp:0<ak.length)(hf:ak.length≤4294967296)(hw:ls.length+1≤1048577)(hr: ∀q,q<ak.length→(aB.getD q []).length=ls.length+1∧∀a,a<ls.length+1→(aB.getD q []).getD a 0<ak.length) :bD W vl ls∧nV W vf vn ak aB (ls.length+1) :=by exact af1
end
theorem Iw(n:Nat)(h:n<9223372036854775808) :IntKind.i64.wrap (n:Int)=(n:Int) :=by rw[IntKind.wrap_i64];omega
theorem Nj(a b:Nat)(ha:a<9223372036854775808)(hb:b<9223372036854775808) :bits .and .i64 (a:Int) (b:Int)=((a&&&b:Nat) :Int) :=by have hx:a&&&b<2^63:=Nat.and_lt_two_pow _ (by omega);show IntKind.i64.wrap ((aal 64 (a:Int) &&&aal 64 (b:Int)).toNat:Int)=_;rw[BitVec.toNat_and,aah a (by omega),aah b (by omega)];exact Iw _ (by omega)
theorem Gi(a b:Nat)(ha:a<9223372036854775808)(hb:b<9223372036854775808) :bits .or .i64 (a:Int) (b:Int)=((a |||b:Nat) :Int) :=by have hx:a |||b<2^63:=Nat.or_lt_two_pow (by omega) (by omega);show IntKind.i64.wrap ((aal 64 (a:Int)|||aal 64 (b:Int)).toNat:Int)=_;rw[BitVec.toNat_or,aah a (by omega),aah b (by omega)];exact Iw _ (by omega)
theorem afe {s j:Nat}(h:s.testBit j=false) :s+2^j=s |||2^j:=by
 have h1:s %2^(j+1)<2^j:=by
  rw[Nat.mod_pow_succ];have h2:s/2^j %2=0:=by
   rw[aas]at h;have: ¬s/2^j %2=1:=by simpa using h
   omega
  rw[h2];simpa using Nat.mod_lt s (Nat.two_pow_pos j)
 have h3:=Nat.div_add_mod s (2^(j+1));generalize s %2^(j+1)=r at*;generalize s/2^(j+1)=q at*;have h4:r+2^j<2^(j+1) :=by rw[Nat.pow_succ];omega
 have h5:r<2^(j+1) :=by omega
 have e1:2^j+r=2^j |||r:=by simpa using aap h1 1
 have e2:=aap h4 q;have e3:=aap h5 q;rw[←h3,Nat.add_assoc,e2,e3,Nat.add_comm r,e1,Nat.or_assoc,Nat.or_comm r]
theorem ajw(x n:Nat) :((x/2^n&&&1:Nat)==1)=x.testBit n:=by rw[aas,Nat.and_one_is_mod];rfl
theorem pz(x i:Nat)(w:World)(hx:x<4294967296)(hi:i≤40) :Calls Tryd.prog 71 #[.int .i64 (x:Int),.int .i64 (i:Int)] w fun e w'=>e= .returned (.bool (x.testBit i))∧w'=w:=by
 have hdiv:((x/2^i:Nat) :Int)=(x:Int) /2^i:=by norm_cast
 have hDx:x/2^i≤x:=Nat.div_le_self _ _;have HT:=ah (ajw x i);obtain⟨D,hD⟩ : ∃D:Nat,x/2^i=D:=⟨_,rfl⟩;rw[hD]at hdiv hDx HT;clear hD;have ara:=hdiv.symm;clear hdiv;have han:=Nj D 1 (by omega) (by omega);have HT2:Hid ((bits .and .i64 (D:Int) 1==1)=x.testBit i) :=by
  show _=_;rw[←HT.out,show bits .and .i64 (D:Int) 1=((D&&&1:Nat) :Int)from han];generalize D&&&1=q;by_cases e:q=1;·subst e;rfl
  ·rw[beq_eq_false_iff_ne.2 e,beq_eq_false_iff_ne.2 (by omega)]
 clear han HT;go_enter Tryd.func71,Tryd.ntmps71;go_wp2;go_ret;exact⟨by rw[←HT2.out];rfl,rfl⟩
end Go.Proofs.YtkbjimkngmlfcaaDoor
