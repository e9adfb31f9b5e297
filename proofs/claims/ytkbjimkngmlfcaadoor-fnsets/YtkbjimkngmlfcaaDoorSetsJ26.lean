import Derived.Test.YtkbjimkngmlfcaaDoorSetsJ25
open Go renaming World→aaa,heap_alloc_new→aav,Operand→aaE,Value→aab,Addr→aat,Calls→aax,bodyPost_ret→aaL,results→aaK,Ending→aaT
open Go.IntKind renaming wrap_i64→aaF
open Go.RowKit renaming Below→aah
open Go.RowKit.Below renaming refl→aas
open Go.Utf8 renaming decode→aaQ
open Go.Value.slice renaming injEq→aa1
open Int renaming eq_ofNat_of_zero_le→aaY
open List renaming length_append→aa5,mem_or_eq_of_mem_set→aa3,mem_of_getElem?→aaA,map_set→aa4,mem_map_of_mem→aaV,foldl_append→aa7
open Nat renaming le_refl→aap,le_trans→aaR
open Or renaming inr→aal,inl→aau
open Prod renaming snd→aaw
namespace Go.Proofs.YtkbjimkngmlfcaaDoor
open Go Go.RowKit
set_option linter.unusedVariables false
set_option linter.unusedSimpArgs false
set_option maxRecDepth 100000
set_option maxHeartbeats 8000000
theorem aea {P:Prop}(h:P:=by refine HE.out _ (But.trans (Y:=fun x=>x=W0.heap.size∨x=W0.heap.size+1) (Z:=fun x=>x=W0.heap.size∨x=W0.heap.size+1) ?_ (But.of_below (Below.refl _ _).drew) (fun i _ e=>e) (fun i _ e=>e));first|exact((But.refl _ _).set _ 0 _ (Or.inl rfl)).set _ 0 _ (Or.inr rfl)|exact((But.refl _ _).set _ 0 _ (Or.inr rfl)).set _ 0 _ (Or.inl rfl)) :P:=h
theorem VP {P:Prop}(h:P:=by go_wp2_with fail;refine bodyPost_ret (v:= .agg #[.slice (some ⟨g,0,none⟩) l.length cv]) (by simp[results,Tryd.results34,go_sem,fu.out]) rfl ?_;exact gZ.out) :P:=h
theorem aiH {P:Prop}(h:P:=by
 go_wp2;go_roundw;case rel=>exact⟨k-1,t++v,a3,Og,by omega,by go_num,rfl,by rw[ByteArray.size_append];omega,by omega,by omega,hd4,hd5,HR.out.1,HR.out.2⟩
 case measure=>simp[intOf];omega) :P:=h
theorem ai5 {P:Prop}(h:P:=by
 have HK:Hid (k=0) :=by show k=0;omega
 have hkz: ¬(0:Int)<(k:Int) :=by omega
 go_wp2;go_ret;unfold rC;exact⟨t,a2,mR,rfl,by omega,by omega,by omega,hd0,hd1,O7.out,I1.out⟩) :P:=h
section
variable {md:Region.Mode} {ops:Array Oper} {Q:Exit→Act→aaa→Prop} {S S':aaa→Prop} {z:Nat} {a:Act} {w:aaa}
theorem tF(h: ∀u,S' u→S u) : ∀(fuel:Nat)(listed:Array Bool)(a:Act)(w:aaa),dL Tryd.prog md ops Q S' z fuel listed a w→dL Tryd.prog md ops Q S z fuel listed a w
 |0,_,_,_,hh=>hh
 |fuel+1,_,_,_,hh=>⟨hh.1,fun i hi=>wpOp_mono (fun a' w' h'=>⟨h'.1.imp id (h _),tF h fuel _ a' w' h'.2⟩) (hh.2 i hi)⟩
end
theorem Rs(w:aaa)(e:TypeId) :(w.alloc (.cells #[] e)).ownsRow w.heap.size e 3 (.slice (some ⟨w.heap.size,0,none⟩) 0 0) 0 [] :=by refine⟨rfl,aal ⟨w.heap.size,0,#[],rfl,aap _,aav _ _,aap _,by simp[maxLen],by simp,rfl⟩⟩
theorem Au(W:aaa)(ρ:aaE→aab)(o:Oper)(ho:o.op= .buildSlice 56 5 #[(0,.const (.int .i64 97)),(1,.const (.int .i64 (-1))),(2,.const (.int .i64 55296)),(3,.const (.int .i64 1114112)),(4,.const (.int .i64 5))])(h0:ρ (.const (.int .i64 97))= .int .i64 97)(h1:ρ (.const (.int .i64 (-1)))= .int .i64 (-1))(h2:ρ (.const (.int .i64 55296))= .int .i64 55296)(h3:ρ (.const (.int .i64 1114112))= .int .i64 1114112)(h4:ρ (.const (.int .i64 5))= .int .i64 5) :(execOp ρ o).run Tryd.prog W= .ok (.value (.slice (some ⟨W.heap.size,0,none⟩) 5 5)) (W.alloc (.cells #[.int .i64 97,.int .i64 (-1),.int .i64 55296,.int .i64 1114112,.int .i64 5] 3)) :=by exact Xd
theorem bq.ajv {W W1:aaa} {base:Nat} {v v':aab} {l:List dK} {e:Int}(h:bq W base v l)(hb:But (fun b=>v.ownBlock=some b) W W1)(ho:W1.ownsRow base 42 3 v' (l.length+1) (dS l++ [.bool false,.slice none 0 0,.int .i64 e])) :bq W1 base v' (l++ [(.slice none 0 0,false,[],e)]) :=by
 refine⟨?_,fun s hs=> ?_,?_⟩;·rw[aa5,List.length_singleton,BD];exact ho
 ·rcases List.mem_append.1 hs with h1|h1;·have hu:=h.aR s h1;refine aG hu (fun b hk=>hb.block b (Array.getElem?_eq_some_iff.1 (aA hu hk).2.choose_spec).1 (fun e'=> ?_));obtain⟨_,c1,h1⟩ :=aA hu hk;obtain⟨_,c2,h2⟩ :=aA h.row e';rw[h1]at h2;exact Po
  ·rw[List.mem_singleton.1 h1];exact World.ownsRow_nil _ _ _ _
 ·rw[List.pairwise_append];refine⟨h.apart,by simp,fun s hs t ht=> ?_⟩;rw[List.mem_singleton.1 ht];exact iy.symm (aau rfl)
def lenOf:Option aab→Nat
 |some (.slice _ n _)=>n
 |_=>0
theorem mg(W:aaa)(ρ:aaE→aab)(o:Oper)(x:aaE)(ho:o.op= .load 23 x)(b off:Nat)(v:aab)(hx:ρ x= .pointer (some ⟨b,off,none⟩))(h0:W.cell? ⟨b,off,none⟩=some v) :(execOp ρ o).run Tryd.prog W= .ok (.value v) W:=by exact vG
theorem N7 {w:aaa} {base e size n g cap:Nat} {xs:List aab}(h:w.ownsRow base e size (.slice (some ⟨g,0,none⟩) n cap) n xs)(j:Nat)(hj:j<xs.length) :w.cell? ⟨g,j,none⟩=some xs[j] :=by
 have hl:=h.1;rcases h.2 with⟨h',_⟩| ⟨g',c',cur,h1,h2,h3,h4,h5,h6,h7⟩;·simp at h'
 ·simp only[aa1,Option.some.injEq,Addr.mk.injEq,and_true,true_and]at h1;obtain⟨rfl,rfl⟩ :=h1;rw[aj h3 j];subst h7;simp at hj⊢
theorem YN(W:aaa)(ρ:aaE→aab)(o:Oper)(x y:aaE)(ho:o.op= .binOp .lss 3 x y 3)(p q:Int)(hx:ρ x= .int .i64 p)(hy:ρ y= .int .i64 q) :(execOp ρ o).run Tryd.prog W= .ok (.value (.bool (decide (p<q)))) W:=by exact BN
theorem abS {l:List dK}(h:eu 258 32 (l.map aaw))(hl:l.length+1≤258) {e:Int} :eu 258 32 ((l++ [((.slice none 0 0:aab),false,([] :List (Int×Int)),e)]).map aaw) :=by
 rw[List.map_append];refine⟨by simp;omega,fun s hs=> ?_,fun s hs=> ?_⟩
 ·rcases List.mem_append.1 hs with hs|hs;·exact h.aR s hs
  ·rw[List.mem_singleton.1 hs];exact Nat.zero_le _
 ·rcases List.mem_append.1 hs with hs|hs;·exact h.low s hs
  ·rw[List.mem_singleton.1 hs];exact fun a ha=>absurd ha (by simp)
theorem ym(W:aaa)(ρ:aaE→aab)(o:Oper)(x:aaE)(ho:o.op= .load 3 x)(b off:Nat)(v:aab)(hx:ρ x= .pointer (some ⟨b,off,none⟩))(h0:W.cell? ⟨b,off,none⟩=some v) :(execOp ρ o).run Tryd.prog W= .ok (.value v) W:=by exact vG
theorem Er(q:Nat)(hq:q<5) : ∃r:Int,(#[.int .i64 97,.int .i64 (-1),.int .i64 55296,.int .i64 1114112,.int .i64 5] :Array aab)[q]?=some (.int .i64 r)∧(r<128∨ig r=false) :=by
 match q,hq with
 |0,_=>exact⟨_,rfl,by decide⟩
 |1,_=>exact⟨_,rfl,by decide⟩
 |2,_=>exact⟨_,rfl,by decide⟩
 |3,_=>exact⟨_,rfl,by decide⟩
 |4,_=>exact⟨_,rfl,by decide⟩
theorem acr {W W':aaa} {g p:Nat} {v:aab}(h:W.cell? ⟨g,p,none⟩=some v)(hb:aah W.heap.size W W') :W'.cell? ⟨g,p,none⟩=some v:=by
 have hlt:g<W.heap.size:=by
  rcases Nat.lt_or_ge g W.heap.size with h'|h';·exact h'
  ·simp[World.cell?,h']at h
 exact(hb.cell (p:=⟨g,p,none⟩) hlt).trans h
section
variable {W:aaa} {base g cap k:Nat} {l:List dK} {s:dK}
theorem fe(h:bq W base (.slice (some ⟨g,0,none⟩) l.length cap) l)(hk:l[k]?=some s) :W.cell? ⟨g,k*3,none⟩=some (.bool s.2.1)∧W.cell? ⟨g,k*3+1,none⟩=some s.1∧W.cell? ⟨g,k*3+2,none⟩=some (.int .i64 s.2.2.2) :=by
 obtain⟨c0,c1,c2⟩ :=zR l k s hk;have key: ∀(j:Nat)(u:aab),(dS l)[j]?=some u→W.cell? ⟨g,j,none⟩=some u:=fun j u hu=>by obtain⟨h1,h2⟩ :=List.getElem?_eq_some_iff.1 hu;rw[←h2];exact N7 h.row j h1
 exact⟨key _ _ c0,key _ _ c1,key _ _ c2⟩
theorem Xv {v:aab}(h:bq W base v l)(hk:l[k]?=some s) {e:Int} {t:dK}(ht:t∈l.set k (s.1,s.2.1,s.2.2.1,e)) :W.ownsRow base 44 2 t.1 t.2.2.1.length (dN t.2.2.1) :=by
 rcases aa3 ht with ht|rfl;·exact h.aR t ht
 ·exact h.aR s (aaA hk)
theorem Ec {v:aab} {i:Nat} {y:dK}(h:bq W base v l)(hy:l[i]?=some y)(hk:l[k]?=some s)(hi:i≠k) :iy y.1 s.1:=by
 have h1:=List.pairwise_iff_getElem.1 h.apart;obtain⟨hi',rfl⟩ :=List.getElem?_eq_some_iff.1 hy;obtain⟨hk',rfl⟩ :=List.getElem?_eq_some_iff.1 hk;rcases Nat.lt_or_gt_of_ne hi with h2|h2;·exact h1 i k hi' hk' h2
 ·exact(h1 k i hk' hi' h2).symm
theorem Sc {v:aab}(h:bq W base v l)(hk:l[k]?=some s) {e:Int} :(l.set k (s.1,s.2.1,s.2.2.1,e)).Pairwise fun s t=>iy s.1 t.1:=wo (fun x y=>iy.symm) l k _ h.apart fun i y hi hy=>show iy y.1 s.1 from Ec h hy hk hi
theorem ab3 {v:aab}(hk:l[k]?=some s) {e:Int} {j:Nat}(h:rQ v (l.set k (s.1,s.2.1,s.2.2.1,e)) j) :rQ v l j:=by
 rcases h with h| ⟨t,ht,h⟩;·exact aau h
 ·rcases aa3 ht with ht|rfl;·exact aal ⟨t,ht,h⟩
  ·exact aal ⟨s,aaA hk,h⟩
theorem Bt.BU {m0 b:Nat} {ao:Option aat} {n cap':Nat} {A:Int} {W0 W1:aaa} {top:Nat} {ic:aab} {a:Int×Int}(h:Bt m0 b ao n cap' A W0 W base top (.slice (some ⟨g,0,none⟩) l.length cap) l)(hk:l[k]?=some s)(hb:But (fun b=>s.1.ownBlock=some b) W W1)(ho:W1.ownsRow base 44 2 ic (s.2.2.1.length+1) (dN s.2.2.1++ [.int .i64 a.1,.int .i64 a.2]))(hat: ∀b,ic.ownBlock=some b→s.1.ownBlock=some b∨W.heap.size≤b)(h1c:ic.oneCell'=true) :W1.heap[W0.heap.size]?=some (.cells #[.slice (some ⟨g,0,none⟩) l.length cap] 25)∧W1.cell? ⟨g,k*3+1,none⟩=some s.1∧W1.frozen? ⟨g,k*3+1,none⟩=false∧Bt m0 b ao n cap' A W0 (W1.setCell ⟨g,k*3+1,none⟩ ic) base top (.slice (some ⟨g,0,none⟩) l.length cap) (l.set k (ic,s.2.1,s.2.2.1++ [a],s.2.2.2))∧∀(j:Nat)(ds:Array aab)(t:TypeId),t≠44→W.heap[j]?=some (.cells ds t)→W1.heap[j]?=some (.cells ds t) :=by
 have hmem:=aaA hk;have ho2: ∀(j:Nat)(ds:Array aab)(t:TypeId),t≠44→W.heap[j]?=some (.cells ds t)→W1.heap[j]?=some (.cells ds t) :=fun j ds t h1 hh=>by rw[hb.block j (Array.getElem?_eq_some_iff.1 hh).1 (fun e=>by obtain⟨_,cs,h3⟩ :=aA (h.bZ.aR s hmem) e;exact aN hh h3 h1 rfl)];exact hh
 have hrow:W1.ownsRow base 42 3 (.slice (some ⟨g,0,none⟩) l.length cap) l.length (dS l) :=aG h.bZ.row fun j hj=>by obtain⟨_,cs,h3⟩ :=aA h.bZ.row hj;rw[ho2 j cs _ (by decide) h3,h3]
 obtain⟨_,cur,hg⟩ :=aA hrow (b:=g) rfl;have hcl:W1.cell? ⟨g,k*3+1,none⟩=some s.1:=by obtain⟨h1,h2⟩ :=List.getElem?_eq_some_iff.1 (zR l k s hk).2.1;rw[←h2];exact N7 hrow _ h1
 have hd:bq (W1.setCell ⟨g,k*3+1,none⟩ ic) base (.slice (some ⟨g,0,none⟩) l.length cap) (l.set k (ic,s.2.1,s.2.2.1++ [a],s.2.2.2)) :=by
  refine bq.setSt (W:=W) (s:=s) (s':=(ic,s.2.1,s.2.2.1++ [a],s.2.2.2)) hrow rfl hk (aau ⟨rfl,rfl,rfl,h1c⟩) (fun t ht=> ?_) ?_
  ·obtain⟨i,hi⟩ :=List.mem_iff_getElem?.1 ht;by_cases hik:i=k;·subst hik;rw[List.getElem?_set_self (List.getElem?_eq_some_iff.1 hk).1]at hi;simp only[Option.some.injEq]at hi;subst hi;show W1.ownsRow base _ 2 ic (s.2.2.1++ [a]).length (dN (s.2.2.1++ [a]));rw[aa5,AZ];exact ho
   ·rw[List.getElem?_set_ne (Ne.symm hik)]at hi;have hu:=h.bZ.aR t (aaA hi);refine aG hu (fun b hk'=>hb.block b (Array.getElem?_eq_some_iff.1 (aA hu hk').2.choose_spec).1 (fun e'=> ?_));rcases Ec h.bZ hi hk hik with h9|h9;·rw[h9]at hk';cases hk'
    ·exact h9 (hk'.trans e'.symm)
  ·refine wo (fun x y=>iy.symm) l k _ h.bZ.apart fun i y hi hy=> ?_;cases hv:y.1.ownBlock with
   |none=>exact aau hv
   |some j=>
    refine aal fun e=> ?_;rw[hv]at e;rcases hat j e.symm with h9|h9
    ·rcases Ec h.bZ hy hk hi with h8|h8;·rw[h8]at hv;cases hv
     ·exact h8 (hv.trans h9.symm)
    ·have:=(Array.getElem?_eq_some_iff.1 (aA (h.bZ.aR y (aaA hy)) hv).2.choose_spec).1;omega
 refine⟨ho2 _ _ _ (by decide) h.box,hcl,bL hg _,h.put ((hb.mono fun i _ e=>aal ⟨s,hmem,e⟩).set g (k*3+1) _ (aau rfl)) hd (fun j hj=> ?_) rfl,ho2⟩;rcases hj with hj| ⟨t,ht,hj⟩;·exact aau (aau hj)
 ·rcases aa3 ht with ht|rfl;·exact aau (aal ⟨t,ht,hj⟩)
  ·rcases hat j hj with h9|h9;·exact aau (aal ⟨s,hmem,h9⟩)
   ·exact aal h9
end
theorem MW(m0 b:Nat)(ao:Option aat)(n cap:Nat)(a0:Int)(W0:aaa)(base top:Nat)(v:aab)(l:List dK)(hn:n≤1048576)(ha:a0≤900000)(hs:Sr m0 b ao n cap a0 W0)(hd:bq W0 base v l)(htp: ∀k,rQ v l k→k<top)(hok:eu 256 31 (l.map aaw))(hlt:b<base)(hlow:base≤W0.heap.size)(htop:top≤W0.heap.size) :aax Tryd.prog 34 #[.pointer (some ⟨b,0,none⟩),.agg #[v]] W0 (TH m0 b ao n cap a0 W0 base top) :=by
 obtain⟨is,his,hs0,hs1,hs2⟩ :=info_parts Tryd.infoStD;obtain⟨av,cv,rfl⟩ :=hd.vals;have hll:l.length≤256:=by have:=hok.len;rwa [List.length_map]at this
 have hb1:aah W0.heap.size W0 (W0.alloc (.cells #[.slice av l.length cv] 25)) :=(aas _ _).alloc (aap _) _;have hsz1:(W0.alloc (.cells #[.slice av l.length cv] 25)).heap.size=W0.heap.size+1:=by simp
 have hb2:aah (W0.heap.size+1) (W0.alloc (.cells #[.slice av l.length cv] 25)) ((W0.alloc (.cells #[.slice av l.length cv] 25)).alloc (.cells #[.slice none 0 0] 25)) :=(aas _ _).alloc (by simp) _;have hb3:=hb1.trans (hb2.mono (by omega));have iq:Hid (Bt m0 b ao n cap a0 W0 ((W0.alloc (.cells #[.slice av l.length cv] 25)).alloc (.cells #[.slice none 0 0] 25)) base top (.slice av l.length cv) l) :=⟨hs.below hb3,But.of_below (X:=fun x=>x=b∨(base≤x∧x<top)) hb3,aC (aav _ _) (by rw[hsz1];exact hb2),by rw[←hsz1];exact aav _ _,hd.below hb3,fun k hk=>aau (htp k hk),hlt,hlow,htop⟩;clear hs hd htp hb1 hb2 hb3;have j4:=ah hok;clear hok;go_enter Tryd.func34,Tryd.ntmps34;go_upto_region 1 with fail;clear hsz1;generalize(W0.alloc (.cells #[.slice av l.length cv] 25)).alloc (.cells #[.slice none 0 0] 25)=W1 at*;have t0:=aj iq.out.box 0
 by_cases h0:l.length=0
 ·have hz:((l.length:Int)==0)=true:=by simp[h0]
  clear h0;obtain⟨a9,c9,e9,_,s0,f0,q1,q2⟩ :=iq.out.fin (j4.out.mono (by omega) (by omega)) (by omega:a0≤a0+2000);have fu:=ah q1;have gZ:=ah q2;clear q1 q2 iq e9;go_wp2_with fail;refine aaL (v:= .agg #[.slice av l.length cv]) (by simp[aaK,Tryd.results34,go_sem,fu.out]) rfl ?_;exact gZ.out
 have hz:((l.length:Int)==0)=false:=by rw[beq_eq_false_iff_ne];omega
 go_wp2_with fail;refine(iq.out.sr.next hn (by omega) (l.length:Int) (by omega) (by omega)).mono ?_;rintro e W2⟨k,a1,rfl,hk,ha1,rz,hbt⟩;have HB2:=ah (iq.out.src rz hbt);clear rz hbt iq t0;go_wp2_with fail;refine(HB2.out.sr.next hn (by omega) 10 (by decide) (by decide)).mono ?_;rintro e W3⟨y,a2,rfl,hy,ha2,J9,hbt⟩;have HB3:=ah (HB2.out.src J9 hbt);clear J9 hbt HB2;have hkl:k<l.length:=by omega
 obtain⟨s,hks⟩ : ∃s,l[k]?=some s:=⟨_,List.getElem?_eq_getElem hkl⟩;obtain⟨g,rfl⟩ : ∃g,av=some ⟨g,0,none⟩ :=by
  rcases HB3.out.bZ.row.2 with⟨e9,e8⟩| ⟨g7,c7,wm,e9,_⟩;·omega
  ·simp only[aa1]at e9;exact⟨g7,e9.1⟩
 by_cases y0:y=0
 ·subst y0;go_upto_region 6 with fail;refine sN (fun u=>u.heap[W0.heap.size]?=some (.cells #[.slice (some ⟨g,0,none⟩) l.length cv] 25)) 12 (by kernel_rfl) ?_;have hbd:aah W3.heap.size W3 ({heap:=W3.heap,tape:=W3.tape,drawn:=W3.drawn+1,os:=W3.os,output:=W3.output} :aaa) :=(aas _ _).drew;generalize({heap:=W3.heap,tape:=W3.tape,drawn:=W3.drawn+1,os:=W3.os,output:=W3.output} :aaa)=V0 at*;have hB0:=HB3.out.below hbd;have hS0:=hB0.box;have ZY:IntKind.i64.wrap ((l.length:Int)+4)=(l.length:Int)+4:=by rw[aaF];omega
  try refine te ?_
  refine ep 0 hS0 ?_;refine el 1 [10,11,12] hS0 (fun u hu=>mg u _ _ _ rfl W0.heap.size 0 _ (by kernel_rfl) (aj hu 0)) ?_;refine ep 2 hS0 ?_;refine ep 3 hS0 ?_;refine ep 4 hS0 ?_;refine el 5 [6,7,8,9,12] hS0 (fun u hu=>mg u _ _ _ rfl W0.heap.size 0 _ (by kernel_rfl) (aj hu 0)) ?_;refine ep 6 hS0 ?_;refine ep 7 hS0 ?_;refine gL 8 (by kernel_rfl) ?_;refine bQ 22 #[.pointer (some ⟨b,0,none⟩),.int .i64 ((l.length:Int)+4)] rfl (by kernel_rfl) (eT _ _ _ _ _ _ _ _ rfl _ _ (by kernel_rfl) (by kernel_rfl) (Tryd.call22 _ _)) ?_;refine(hB0.sr.next hn (by omega) ((l.length:Int)+4) (by omega) (by omega)).mono ?_;rintro e' V1⟨q,a3,rfl,hq,ze,iN,hbt⟩;have hB1:=hB0.src iN hbt;refine⟨aal hB1.box,?_⟩;try refine te ?_
  have hwq:IntKind.i64.wrap ((q:Int)-2)=(q:Int)-2:=by rw[aaF];omega
  refine ep 9 hB1.box ?_;refine ep 10 hB1.box ?_;refine ep 11 hB1.box ?_;obtain⟨_,cur,hg⟩ :=aA hB1.bZ.row (b:=g) rfl;have hgc:=(fe hB1.bZ hks).2.2;refine e1z 12 (sP _ _ _ _ _ rfl g (k*3+2) ((q:Int)-2) _ (by kernel_rfl) (by kernel_rfl) hgc (bL hg _)) ?_;refine tH (by kernel_rfl) ?_ _;have hd9:bq (V1.setCell ⟨g,k*3+2,none⟩ (.int .i64 ((q:Int)-2))) base (.slice (some ⟨g,0,none⟩) l.length cv) (l.set k (s.1,s.2.1,s.2.2.1,(q:Int)-2)) :=bq.setSt (W:=V1) (s:=s) (s':=(s.1,s.2.1,s.2.2.1,(q:Int)-2)) hB1.bZ.row rfl hks (aal ⟨rfl,rfl,rfl⟩) (fun t ht=>Xv hB1.bZ hks ht) (Sc hB1.bZ hks);have rF:=ah (hB1.put ((But.refl _ _).set g (k*3+2) _ (aau rfl)) hd9 (fun j hj=>aau (ab3 hks hj)) rfl);have Xz:eu 258 32 ((l.set k (s.1,s.2.1,s.2.2.1,(q:Int)-2)).map aaw) :=by rw[aa4];exact j4.out.set (by omega) (by omega) k _ (aaR (j4.out.aR s.2 (aaV (aaA hks))) (by omega)) (j4.out.low s.2 (aaV (aaA hks)))
  clear hbd hB0 hS0 ZY iN hbt hB1 hwq hg hgc hd9;have t0:=aj rF.out.box 0;obtain⟨a9,c9,e9,_,s0,f0,q1,q2⟩ :=rF.out.fin (Xz) (by omega:a3≤a0+2000);have fu:=ah q1;have gZ:=ah q2;clear q1 q2 rF e9;exact VP
 have hz0:((y:Int)==0)=false:=by simp;omega
 by_cases y1:y=1
 ·subst y1;obtain⟨va,fb,rs,ez⟩ :=s;have hrk:rs.length≤31:=j4.out.aR (fb,rs,ez) (aaV (f:=aaw) (aaA hks));have HRK:=ah hrk;clear hrk;go_upto_region 8 with fail;refine sN (fun u=>u.heap[W0.heap.size]?=some (.cells #[.slice (some ⟨g,0,none⟩) l.length cv] 25)∧u.cell? ⟨g,k*3+1,none⟩=some va) 26 (by kernel_rfl) ?_;have hbd:aah W3.heap.size W3 ({heap:=W3.heap,tape:=W3.tape,drawn:=W3.drawn+1,os:=W3.os,output:=W3.output} :aaa) :=(aas _ _).drew;generalize({heap:=W3.heap,tape:=W3.tape,drawn:=W3.drawn+1,os:=W3.os,output:=W3.output} :aaa)=V0 at*;have hB0:=HB3.out.below hbd;have hS0:V0.heap[W0.heap.size]?=some (.cells #[.slice (some ⟨g,0,none⟩) l.length cv] 25)∧V0.cell? ⟨g,k*3+1,none⟩=some va:=⟨hB0.box,(fe hB0.bZ hks).2.1⟩;have ZY:IntKind.i64.wrap ((l.length:Int)+3)=(l.length:Int)+3:=by rw[aaF];omega
  clear hbd HB3;try refine te ?_
  refine ep 0 hS0 ?_;refine el 1 [24,25,26] hS0 (fun u hu=>mg u _ _ _ rfl W0.heap.size 0 _ (by kernel_rfl) (aj hu.1 0)) ?_;refine ep 2 hS0 ?_;refine ep 3 hS0 ?_;refine el 4 [6,7,8,23,26] hS0 (fun u hu=>mg u _ _ _ rfl W0.heap.size 0 _ (by kernel_rfl) (aj hu.1 0)) ?_;refine ep 5 hS0 ?_;refine ep 6 hS0 ?_;refine ep 7 hS0 ?_;refine el 8 [23,26] hS0 (fun u hu=>o9 u _ _ _ rfl g (k*3+1) va (by kernel_rfl) hu.2) ?_;refine ep 10 hS0 ?_;refine ep 14 hS0 ?_;refine ep 15 hS0 ?_;refine el 16 [17,18,19,20,21,22,23,26] hS0 (fun u hu=>mg u _ _ _ rfl W0.heap.size 0 _ (by kernel_rfl) (aj hu.1 0)) ?_;refine ep 17 hS0 ?_;refine ep 18 hS0 ?_;refine EZ 9 11 (by kernel_rfl) ?zt3 ?zt4;case' zt3=>
   refine aP _ _ rfl (by kernel_rfl) (Au _ _ _ rfl rfl rfl rfl rfl rfl) ?_;have hbr:=(aas V0.heap.size V0).alloc (aap _) (.cells #[.int .i64 97,.int .i64 (-1),.int .i64 55296,.int .i64 1114112,.int .i64 5] 3);have hrw:=aav V0 (.cells #[.int .i64 97,.int .i64 (-1),.int .i64 55296,.int .i64 1114112,.int .i64 5] 3);have hB1:=hB0.below hbr;clear hbr;generalize V0.alloc (.cells #[.int .i64 97,.int .i64 (-1),.int .i64 55296,.int .i64 1114112,.int .i64 5] 3)=V1 at*;generalize V0.heap.size=rb at*;refine⟨aal ⟨hB1.box,(fe hB1.bZ hks).2.1⟩,?_⟩;try refine te ?_
   refine tF (S':=fun u=>(u.heap[W0.heap.size]?=some (.cells #[.slice (some ⟨g,0,none⟩) l.length cv] 25)∧u.cell? ⟨g,k*3+1,none⟩=some va)∧u.heap[rb]?=some (.cells #[.int .i64 97,.int .i64 (-1),.int .i64 55296,.int .i64 1114112,.int .i64 5] 3)) (fun _ h=>h.1) _ _ _ _ ?_;refine gL 11 (by kernel_rfl) ?_;refine bQ 22 #[.pointer (some ⟨b,0,none⟩),.int .i64 5] rfl (by kernel_rfl) (eT _ _ _ _ _ _ _ _ rfl _ _ (by kernel_rfl) (by kernel_rfl) (Tryd.call22 _ _)) ?_;refine(hB1.sr.next hn (by omega) 5 (by decide) (by decide)).mono ?_;rintro e' V2⟨q1,a3,rfl,hq1,ze,iN,hbt⟩;have hB2:=hB1.src iN hbt;replace hrw:=hB1.sr.other hbt (by decide) hrw;refine⟨aal ⟨⟨hB2.box,(fe hB2.bZ hks).2.1⟩,hrw⟩,?_⟩;try refine te ?_
   obtain⟨rn,hr1,hrn⟩ :=Er q1 (by omega);refine ep 12 ⟨⟨hB2.box,(fe hB2.bZ hks).2.1⟩,hrw⟩ ?_;refine el 13 [21,22,23,26] ⟨⟨hB2.box,(fe hB2.bZ hks).2.1⟩,hrw⟩ (fun u hu=>ym u _ _ _ rfl rb q1 (.int .i64 rn) (by kernel_rfl) ((aj hu.2 q1).trans hr1)) ?_;refine gL 19 (by kernel_rfl) ?_;refine bQ 22 #[.pointer (some ⟨b,0,none⟩),.int .i64 ((l.length:Int)+3)] rfl (by kernel_rfl) (eT _ _ _ _ _ _ _ _ rfl _ _ (by kernel_rfl) (by kernel_rfl) (Tryd.call22 _ _)) ?_;refine(hB2.sr.next hn (by omega) ((l.length:Int)+3) (by omega) (by omega)).mono ?_;rintro e' V5⟨q2,a4,rfl,hq2,AA,rz,sK⟩;have l8:=hB2.src rz sK;replace hrw:=hB2.sr.other sK (by decide) hrw;refine⟨aal ⟨⟨l8.box,(fe l8.bZ hks).2.1⟩,hrw⟩,?_⟩;try refine te ?_
   have hw2:IntKind.i64.wrap ((q2:Int)-2)=(q2:Int)-2:=by rw[aaF];omega
   have hst:V5.cell? ⟨g,k*3+1,none⟩=some va:=(fe l8.bZ hks).2.1;have hS5:(V5.heap[W0.heap.size]?=some (.cells #[.slice (some ⟨g,0,none⟩) l.length cv] 25)∧V5.cell? ⟨g,k*3+1,none⟩=some va)∧V5.heap[rb]?=some (.cells #[.int .i64 97,.int .i64 (-1),.int .i64 55296,.int .i64 1114112,.int .i64 5] 3) :=⟨⟨l8.box,hst⟩,hrw⟩;refine ep 20 hS5 ?_
  case' zt4=>
   refine bQ 22 #[.pointer (some ⟨b,0,none⟩),.int .i64 5] rfl (by kernel_rfl) (eT _ _ _ _ _ _ _ _ rfl _ _ (by kernel_rfl) (by kernel_rfl) (Tryd.call22 _ _)) ?_;refine(hB0.sr.next hn (by omega) 5 (by decide) (by decide)).mono ?_;rintro e' V1⟨q1,a3,rfl,hq1,ze,iN,hbt⟩;have hB1:=hB0.src iN hbt;refine⟨aal ⟨hB1.box,(fe hB1.bZ hks).2.1⟩,?_⟩;try refine te ?_
   refine EZ 9 19 (by kernel_rfl) ?zt1 ?zt2;case' zt1=>
    refine aP _ _ rfl (by kernel_rfl) (Au _ _ _ rfl rfl rfl rfl rfl rfl) ?_;have hbr:=(aas V1.heap.size V1).alloc (aap _) (.cells #[.int .i64 97,.int .i64 (-1),.int .i64 55296,.int .i64 1114112,.int .i64 5] 3);have hrw:=aav V1 (.cells #[.int .i64 97,.int .i64 (-1),.int .i64 55296,.int .i64 1114112,.int .i64 5] 3);have hB2:=hB1.below hbr;clear hbr;generalize V1.alloc (.cells #[.int .i64 97,.int .i64 (-1),.int .i64 55296,.int .i64 1114112,.int .i64 5] 3)=V2 at*;generalize V1.heap.size=rb at*;refine⟨aal ⟨hB2.box,(fe hB2.bZ hks).2.1⟩,?_⟩;try refine te ?_
    refine tF (S':=fun u=>(u.heap[W0.heap.size]?=some (.cells #[.slice (some ⟨g,0,none⟩) l.length cv] 25)∧u.cell? ⟨g,k*3+1,none⟩=some va)∧u.heap[rb]?=some (.cells #[.int .i64 97,.int .i64 (-1),.int .i64 55296,.int .i64 1114112,.int .i64 5] 3)) (fun _ h=>h.1) _ _ _ _ ?_;obtain⟨rn,hr1,hrn⟩ :=Er q1 (by omega);refine ep 12 ⟨⟨hB2.box,(fe hB2.bZ hks).2.1⟩,hrw⟩ ?_;refine el 13 [21,22,23,26] ⟨⟨hB2.box,(fe hB2.bZ hks).2.1⟩,hrw⟩ (fun u hu=>ym u _ _ _ rfl rb q1 (.int .i64 rn) (by kernel_rfl) ((aj hu.2 q1).trans hr1)) ?_;refine gL 19 (by kernel_rfl) ?_;refine bQ 22 #[.pointer (some ⟨b,0,none⟩),.int .i64 ((l.length:Int)+3)] rfl (by kernel_rfl) (eT _ _ _ _ _ _ _ _ rfl _ _ (by kernel_rfl) (by kernel_rfl) (Tryd.call22 _ _)) ?_;refine(hB2.sr.next hn (by omega) ((l.length:Int)+3) (by omega) (by omega)).mono ?_;rintro e' V5⟨q2,a4,rfl,hq2,AA,rz,sK⟩;have l8:=hB2.src rz sK
    replace hrw:=hB2.sr.other sK (by decide) hrw;refine⟨aal ⟨⟨l8.box,(fe l8.bZ hks).2.1⟩,hrw⟩,?_⟩;try refine te ?_
    have hw2:IntKind.i64.wrap ((q2:Int)-2)=(q2:Int)-2:=by rw[aaF];omega
    have hst:V5.cell? ⟨g,k*3+1,none⟩=some va:=(fe l8.bZ hks).2.1;have hS5:(V5.heap[W0.heap.size]?=some (.cells #[.slice (some ⟨g,0,none⟩) l.length cv] 25)∧V5.cell? ⟨g,k*3+1,none⟩=some va)∧V5.heap[rb]?=some (.cells #[.int .i64 97,.int .i64 (-1),.int .i64 55296,.int .i64 1114112,.int .i64 5] 3) :=⟨⟨l8.box,hst⟩,hrw⟩;refine ep 20 hS5 ?_
   case' zt2=>
    refine bQ 22 #[.pointer (some ⟨b,0,none⟩),.int .i64 ((l.length:Int)+3)] rfl (by kernel_rfl) (eT _ _ _ _ _ _ _ _ rfl _ _ (by kernel_rfl) (by kernel_rfl) (Tryd.call22 _ _)) ?_;refine(hB1.sr.next hn (by omega) ((l.length:Int)+3) (by omega) (by omega)).mono ?_;rintro e' V2⟨q2,a4,rfl,hq2,AA,rz,sK⟩;have hB2:=hB1.src rz sK;refine⟨aal ⟨hB2.box,(fe hB2.bZ hks).2.1⟩,?_⟩;try refine te ?_
    have hw2:IntKind.i64.wrap ((q2:Int)-2)=(q2:Int)-2:=by rw[aaF];omega
    refine ep 20 ⟨hB2.box,(fe hB2.bZ hks).2.1⟩ ?_;refine gL 9 (by kernel_rfl) ?_;refine aP _ _ rfl (by kernel_rfl) (Au _ _ _ rfl rfl rfl rfl rfl rfl) ?_;have hbr:=(aas V2.heap.size V2).alloc (aap _) (.cells #[.int .i64 97,.int .i64 (-1),.int .i64 55296,.int .i64 1114112,.int .i64 5] 3);have hrw:=aav V2 (.cells #[.int .i64 97,.int .i64 (-1),.int .i64 55296,.int .i64 1114112,.int .i64 5] 3);have l8:=hB2.below hbr;clear hbr;generalize V2.alloc (.cells #[.int .i64 97,.int .i64 (-1),.int .i64 55296,.int .i64 1114112,.int .i64 5] 3)=V5 at*;generalize V2.heap.size=rb at*;refine⟨aal ⟨l8.box,(fe l8.bZ hks).2.1⟩,?_⟩;try refine te ?_
    refine tF (S':=fun u=>(u.heap[W0.heap.size]?=some (.cells #[.slice (some ⟨g,0,none⟩) l.length cv] 25)∧u.cell? ⟨g,k*3+1,none⟩=some va)∧u.heap[rb]?=some (.cells #[.int .i64 97,.int .i64 (-1),.int .i64 55296,.int .i64 1114112,.int .i64 5] 3)) (fun _ h=>h.1) _ _ _ _ ?_;obtain⟨rn,hr1,hrn⟩ :=Er q1 (by omega);refine ep 12 ⟨⟨l8.box,(fe l8.bZ hks).2.1⟩,hrw⟩ ?_;refine el 13 [21,22,23,26] ⟨⟨l8.box,(fe l8.bZ hks).2.1⟩,hrw⟩ (fun u hu=>ym u _ _ _ rfl rb q1 (.int .i64 rn) (by kernel_rfl) ((aj hu.2 q1).trans hr1)) ?_;have hst:V5.cell? ⟨g,k*3+1,none⟩=some va:=(fe l8.bZ hks).2.1;have hS5:(V5.heap[W0.heap.size]?=some (.cells #[.slice (some ⟨g,0,none⟩) l.length cv] 25)∧V5.cell? ⟨g,k*3+1,none⟩=some va)∧V5.heap[rb]?=some (.cells #[.int .i64 97,.int .i64 (-1),.int .i64 55296,.int .i64 1114112,.int .i64 5] 3) :=⟨⟨l8.box,hst⟩,hrw⟩
  all_goals
   refine ep 21 hS5 ?_;have hba:=(aas V5.heap.size V5).alloc (aap _) (.cells #[.int .i64 rn,.int .i64 ((q2:Int)-2)] 44);refine e1 22 (qO _ _ _ _ rfl rn ((q2:Int)-2) (by kernel_rfl)) ⟨⟨aC hS5.1.1 hba,acr hst hba⟩,aC hrw hba⟩ ?_;refine gL 23 (by kernel_rfl) ?_;refine yl rfl (by kernel_rfl) rfl _ _ rfl base va rs.length (dN rs) (by kernel_rfl) (l8.bZ.aR _ (aaA hks)) rn ((q2:Int)-2) V5.heap.size rfl (by kernel_rfl) (by have:=HRK.out;omega) (aaR l8.low l8.but.size) ?_;intro g4 c4 V6 gY dH fD;obtain⟨ajd,Yy,aej,cO,aiG⟩ :=l8.BU (a:=(rn,(q2:Int)-2)) hks dH gY fD rfl;replace hrw:=aiG _ _ _ (by decide) hrw;have dV:=And.intro (And.intro ajd Yy) hrw;refine⟨aal dV,?_⟩;try refine te ?_
   refine ep 24 dV ?_;refine ep 25 dV ?_;refine e1z 26 (wR _ _ _ _ _ rfl g (k*3+1) (some ⟨g4,0,none⟩) (rs.length+1) c4 va (by kernel_rfl) (by kernel_rfl) Yy aej) ?_;refine tH (by kernel_rfl) ?_ _;have rF:=ah cO;have Xz:eu 258 32 ((l.set k (.slice (some ⟨g4,0,none⟩) (rs.length+1) c4,fb,rs++ [(rn,(q2:Int)-2)],ez)).map aaw) :=by
    rw[aa4];have hm:=aaV (f:=aaw) (aaA hks);refine j4.out.set (by omega) (by omega) k _ (by have:=HRK.out;simp;omega) (fun a ha=> ?_);rcases List.mem_append.1 ha with ha|ha;·exact j4.out.low _ hm a ha
    ·rw[List.mem_singleton.1 ha];exact hrn
   clear dV aiG hrw cO ajd Yy aej gY dH fD hba hS5 hst hw2 l8 hrn;have t0:=aj rF.out.box 0;obtain⟨a9,c9,e9,_,s0,f0,q1,q2⟩ :=rF.out.fin (Xz) (by omega:a4≤a0+2000);have fu:=ah q1;have gZ:=ah q2;clear q1 q2 rF e9;exact VP
 have hz1:((y:Int)==1)=false:=by simp;omega
 by_cases y2:y=2
 ·subst y2;go_upto_region 10 with fail;have hbX:aah W3.heap.size W3 (W3.alloc (.cells #[] 42)) :=(aas _ _).alloc (aap _) _;have hdX:bq (W3.alloc (.cells #[] 42)) base (.slice (some ⟨W3.heap.size,0,none⟩) 0 0) [] :=⟨(Rs W3 _).mono (aaR HB3.out.low HB3.out.but.size),fun s hs=>by simp at hs,List.Pairwise.nil⟩;obtain⟨h9,YG⟩ :=HB3.out.row (But.of_below (X:=rQ (.slice (some ⟨g,0,none⟩) l.length cv) l) hbX) hdX (fun j hj=>aal (by
   rcases hj with hj| ⟨s,hs,_⟩
   ·have:W3.heap.size=j:=by simpa[Value.ownBlock]using hj
    omega
   ·simp at hs));have rF:=ah h9;have t3:=aj YG 0;have z3:=bL YG 0;clear h9 hbX hdX YG HB3;have t0:=aj rF.out.box 0;obtain⟨a9,c9,e9,_,s0,f0,q1,q2⟩ :=rF.out.fin (eu.nil _ _) (by omega:a2≤a0+2000);have fu:=ah q1;have gZ:=ah q2;clear q1 q2 rF e9;go_wp2_with fail;refine aaL (v:= .agg #[.slice (some ⟨W3.heap.size,0,none⟩) 0 0]) (by simp[aaK,Tryd.results34,go_sem,fu.out]) rfl ?_;exact gZ.out
 have hz2:((y:Int)==2)=false:=by simp;omega
 by_cases y3:y=3
 ·subst y3;clear hks;have Hpos:Hid (a2≤a0+6) :=ah (by omega);go_wp2_with fail;go_loopw [](fun wx=>∃(A:Int)(va:aab)(la:List dK),A≤a0+6+3*(la.length:Int)∧la.length≤258∧eu 258 32 (la.map aaw)∧Bt m0 b ao n cap A W0 wx base top va la)(fun wx=>300-lenOf (wx.cell? ⟨W0.heap.size,0,none⟩));case atStart=>exact⟨a2,_,l,by have:=Hpos.out;omega,by omega,j4.out.mono (by omega) (by omega),HB3.out⟩
  case round=>
   rename aaa=>wx;clear HB3 j4;obtain⟨A,va,la,hA,hla,hok,hB⟩ :=hrel;obtain⟨xv,xc,rfl⟩ :=hB.bZ.vals;have qL:=ah hB;have j4:=ah hok;have Ih:=ah (aj hB.box 0);clear hB hok;go_upto_region 12 with fail;refine sN (fun u=>u.heap[W0.heap.size]?=some (.cells #[.slice xv la.length xc] 25)) 6 (by kernel_rfl) ?_;have hbd:aah wx.heap.size wx ({heap:=wx.heap,tape:=wx.tape,drawn:=wx.drawn+1,os:=wx.os,output:=wx.output} :aaa) :=(aas _ _).drew;generalize({heap:=wx.heap,tape:=wx.tape,drawn:=wx.drawn+1,os:=wx.os,output:=wx.output} :aaa)=V0 at*;have hB0:=qL.out.below hbd;have hS0:=hB0.box;try refine te ?_
   refine ep 0 hS0 ?_;refine el 1 [2,6] hS0 (fun u hu=>mg u _ _ _ rfl W0.heap.size 0 _ (by kernel_rfl) (aj hu 0)) ?_;refine ep 2 hS0 ?_;refine ep 3 hS0 ?_;refine gL 4 (by kernel_rfl) ?_;refine bQ 22 #[.pointer (some ⟨b,0,none⟩),.int .i64 2] rfl (by kernel_rfl) (eT _ _ _ _ _ _ _ _ rfl _ _ (by kernel_rfl) (by kernel_rfl) (Tryd.call22 _ _)) ?_;refine(hB0.sr.next hn (by omega) 2 (by decide) (by decide)).mono ?_;rintro e' V1⟨q,a3,rfl,hq,ze,iN,hbt⟩;have hB1:=hB0.src iN hbt;refine⟨aal hB1.box,?_⟩;try refine te ?_
   have hwq:IntKind.i64.wrap (256+(q:Int))=256+(q:Int) :=by rw[aaF];omega
   refine ep 5 hB1.box ?_;refine gL 6 (by kernel_rfl) ?_;refine aP _ _ rfl (by kernel_rfl) (YN _ _ _ _ _ rfl (la.length:Int) (256+(q:Int)) (by kernel_rfl) (by kernel_rfl)) ?_;refine⟨aau rfl,?_⟩;try refine te ?_
   refine tH (by kernel_rfl) ?_ _;have eX:=ah hB1;clear hB1 iN hbt hB0 hS0 hbd hwq qL;by_cases hc:(la.length:Int)<256+(q:Int)
   ·obtain⟨xg,hxv⟩ : ∃xg,xg=xv:=⟨_,rfl⟩;have t0:=aj eX.out.box 0;have xG:=ah eX.out.bZ.row;have hba:base≤V1.heap.size:=aaR eX.out.low eX.out.but.size;have hlb:(la.length+1)*40≤140737488355328:=by omega
    have uD:Hid (∀y∈(#[.bool false,.slice none 0 0,.int .i64 (-1)] :Array aab).toList,y.oneCell'=true) :=by show∀_,_;intro y hy;simp at hy;rcases hy with rfl|rfl|rfl<;>rfl
    go_wp2_with(at_builtin;refine nC rfl _ _ 23 42 rfl is (.agg #[.bool false,.slice none 0 0,.int .i64 0]) 3 40 Tryd.underlying23 his hs0 hs1 hs2 rfl (by decide) base (.slice xv la.length xc) _ _ rfl xG.out #[.bool false,.slice none 0 0,.int .i64 (-1)] rfl uD.out rfl hlb (by decide) hba ?_);intro v' W9 uR oh sw EE;obtain⟨g9,c9,rfl⟩ : ∃g c,v'= .slice (some ⟨g,0,none⟩) (la.length+1) c:=by exact aaP
    obtain⟨hP1,hP2⟩ :=eX.out.row (oh.mono fun i _ e=>aau e) (eX.out.bZ.ajv oh uR) (fun j hj=>by
     rcases hj with hj| ⟨t,ht,hj⟩
     ·rcases sw j hj with h9|h9;·exact aau (aau h9)
      ·exact aal h9
     ·rcases List.mem_append.1 ht with ht|ht;·exact aau (aal ⟨t,ht,hj⟩)
      ·rw[List.mem_singleton.1 ht]at hj;cases hj);have t3:=aj hP2 0;have z3:=bL hP2 0;have bY:=ah hP1;clear hP1 hP2 uR oh sw EE t0 xG eX;go_wp2_with fail;go_roundw;case rel=>exact⟨a3,_,la++ [(.slice none 0 0,false,[],-1)],by simp;omega,by simp;omega,abS j4.out (by simp;omega),bY.out⟩
    case measure=>have hm1:=aj bY.out.box 0;have hm0:=Ih.out;rw[hm1,hm0];simp[lenOf];omega
   ·have rF:=eX;clear eX;have t0:=aj rF.out.box 0;obtain⟨a9,c9,e9,_,s0,f0,q1,q2⟩ :=rF.out.fin (j4.out) (by omega:a3≤a0+2000);have fu:=ah q1;have gZ:=ah q2;clear q1 q2 rF e9;go_wp2_with fail;refine aaL (v:= .agg #[.slice xv la.length xc]) (by simp[aaK,Tryd.results34,go_sem,fu.out]) rfl ?_;exact gZ.out
 have hz3:((y:Int)==3)=false:=by simp;omega
 have t0:=aj HB3.out.box 0;obtain⟨a9,c9,e9,_,s0,f0,q1,q2⟩ :=HB3.out.fin (j4.out.mono (by omega) (by omega)) (by omega:a2≤a0+2000);have fu:=ah q1;have gZ:=ah q2;clear q1 q2 HB3 e9;exact VP
structure Tw(W0 W:aaa)(b:Nat)(ao:Option aat)(n cap:Nat)(A:Int) :Prop where
 sr:Sr b b ao n cap A W
 but:But (fun x=>W0.heap.size≤x) W0 W
 x2:W.heap[W0.heap.size]?=some (.cells #[.slice none 0 0] 25)
 x3:W.heap[W0.heap.size+1]?=some (.cells #[.slice none 0 0] 25)
 lt:W0.heap.size+1<b
section
variable {W0 W W':aaa} {b n cap:Nat} {ao:Option aat} {A A':Int}
theorem Tw.src(h:Tw W0 W b ao n cap A)(hs:Sr b b ao n cap A' W')(hb:But (fun x=>x=b) W W') :Tw W0 W' b ao n cap A':=⟨hs,h.but.trans hb (fun i _ e=>e) (fun i _ e=>by have:=h.lt;have e':i=b:=e;omega),h.sr.other hb (by decide) h.x2,h.sr.other hb (by decide) h.x3,h.lt⟩
theorem Tw.below(h:Tw W0 W b ao n cap A)(hb:aah W.heap.size W W') :Tw W0 W' b ao n cap A:=⟨h.sr.below hb,h.but.trans (But.of_below (X:=fun x=>W0.heap.size≤x) hb) (fun i _ e=>e) (fun i _ e=>e),aC h.x2 hb,aC h.x3 hb,h.lt⟩
theorem Tw.keep {X:Nat→Prop}(h:Tw W0 W b ao n cap A)(hb:But X W W')(hx: ∀x,X x→b<x) :Tw W0 W' b ao n cap A:=by
 have hl:=h.lt;have hz:=h.sr.lt;refine⟨h.sr.keep hb (fun x h=>⟨by have:=hx x h;omega,by have:=hx x h;omega⟩),h.but.trans hb (fun i _ e=>e) (fun i _ e=>by have:=hx i e;omega),?_,?_,h.lt⟩;·rw[hb.block _ (by omega) (fun e=>by have:=hx _ e;omega)];exact h.x2
 ·rw[hb.block _ (by omega) (fun e=>by have:=hx _ e;omega)];exact h.x3
end
theorem bq.ahh {W:aaa} {base:Nat} {v:aab} {l:List dK}(h:bq W base v l) {k:Nat}(hk:rQ v l k) :k<W.heap.size:=by obtain⟨_,cs,t,_,h2⟩ :=h.inv hk;exact GI
theorem bq.WU {W W':aaa} {base m0 b:Nat} {ao:Option aat} {n cap:Nat} {A:Int} {v:aab} {l:List dK}(h:bq W base v l)(hs:Sr m0 b ao n cap A W)(hb:But (fun x=>x=b) W W') :bq W' base v l:=h.congr fun k ds t ht _ hh=>hs.other hb (by rcases ht with rfl|rfl<;>decide) hh
theorem bq.ai6 {W:aaa} {base p:Nat} {v x:aab} {l:List dK}(h:bq W base v l)(hx:W.heap[p]?=some (.cells #[x] 25))(u:aab) :bq (W.setCell ⟨p,0,none⟩ u) base v l:=h.congr fun k cs t ht _ hh=>by rw[ay W p 0 u k (aN hh hx (by rcases ht with rfl|rfl<;>decide))];exact hh
def FR(W:aaa)(e:aaT)(W':aaa) :Prop:=∃A B aa ca ab cb,e= .returned (.tuple #[.agg #[.slice aa A.length ca],.agg #[.slice ab B.length cb]])∧eu 258 32 A∧eu 258 32 B∧(∀W'',But (fun x=>x<W.heap.size) W' W''→dP W'' aa A∧dP W'' ab B)∧aah W.heap.size W W'
theorem Oh {W:aaa} {p q r s:Nat} {v u x y:aab}(hp:W.heap[p]?=some (.cells #[x] 25))(hq:W.heap[q]?=some (.cells #[y] 25))(hr:W.heap[r]?=some (.cells #[v] 25))(hs:W.heap[s]?=some (.cells #[u] 25))(h1:p≠q)(h2:p≠r)(h3:q≠r)(h4:p≠s)(h5:q≠s) :W.cell? ⟨p,0,none⟩=some x∧W.frozen? ⟨p,0,none⟩=false∧W.cell? ⟨q,0,none⟩=some y∧W.frozen? ⟨q,0,none⟩=false∧(W.setCell ⟨p,0,none⟩ v).cell? ⟨q,0,none⟩=some y∧(W.setCell ⟨p,0,none⟩ v).frozen? ⟨q,0,none⟩=false∧(W.setCell ⟨q,0,none⟩ u).cell? ⟨p,0,none⟩=some x∧(W.setCell ⟨q,0,none⟩ u).frozen? ⟨p,0,none⟩=false∧W.cell? ⟨s,0,none⟩=some u∧W.cell? ⟨r,0,none⟩=some v∧(W.setCell ⟨p,0,none⟩ v).cell? ⟨s,0,none⟩=some u∧(W.setCell ⟨q,0,none⟩ u).cell? ⟨r,0,none⟩=some v∧((W.setCell ⟨p,0,none⟩ v).setCell ⟨q,0,none⟩ u).cell? ⟨p,0,none⟩=some v∧((W.setCell ⟨p,0,none⟩ v).setCell ⟨q,0,none⟩ u).cell? ⟨q,0,none⟩=some u∧((W.setCell ⟨q,0,none⟩ u).setCell ⟨p,0,none⟩ v).cell? ⟨p,0,none⟩=some v∧((W.setCell ⟨q,0,none⟩ u).setCell ⟨p,0,none⟩ v).cell? ⟨q,0,none⟩=some u:=by
 have a1:(W.setCell ⟨p,0,none⟩ v).heap[p]?=some (.cells #[v] 25) :=by have:=aL hp 0 v;simpa using this
 have a2:(W.setCell ⟨p,0,none⟩ v).heap[q]?=some (.cells #[y] 25) :=by rw[ay W p 0 v q (Ne.symm h1)];exact hq
 have a3:(W.setCell ⟨q,0,none⟩ u).heap[q]?=some (.cells #[u] 25) :=by have:=aL hq 0 u;simpa using this
 have a4:(W.setCell ⟨q,0,none⟩ u).heap[p]?=some (.cells #[x] 25) :=by rw[ay W q 0 u p h1];exact hp
 have b1:((W.setCell ⟨p,0,none⟩ v).setCell ⟨q,0,none⟩ u).heap[q]?=some (.cells #[u] 25) :=by have:=aL a2 0 u;simpa using this
 have b2:((W.setCell ⟨q,0,none⟩ u).setCell ⟨p,0,none⟩ v).heap[p]?=some (.cells #[v] 25) :=by have:=aL a4 0 v;simpa using this
 refine⟨aj hp 0,bL hp 0,aj hq 0,bL hq 0,aj a2 0,bL a2 0,aj a4 0,bL a4 0,aj hs 0,aj hr 0,?_,?_,?_,aj b1 0,aj b2 0,?_⟩;·have e:(W.setCell ⟨p,0,none⟩ v).heap[s]?=_:=(ay W p 0 v s (Ne.symm h4)).trans hs;exact aj e 0
 ·have e:(W.setCell ⟨q,0,none⟩ u).heap[r]?=_:=(ay W q 0 u r (Ne.symm h3)).trans hr;exact aj e 0
 ·have e:((W.setCell ⟨p,0,none⟩ v).setCell ⟨q,0,none⟩ u).heap[p]?=_:=(ay _ q 0 u p h1).trans a1;exact aj e 0
 ·have e:((W.setCell ⟨q,0,none⟩ u).setCell ⟨p,0,none⟩ v).heap[q]?=_:=(ay _ p 0 v q (Ne.symm h1)).trans a3;exact aj e 0
theorem Ux {W0 W:aaa} {b n cap aaW abg p5 p6 na ca nb cb:Nat} {ao aa ab:Option aat} {A:Int} {l1 l2:List dK}(h:Tw W0 W b ao n cap A)(hx:W.heap[p5]?=some (.cells #[.slice aa na ca] 25))(hy:W.heap[p6]?=some (.cells #[.slice ab nb cb] 25))(d1:bq W aaW (.slice aa na ca) l1)(d2:bq W abg (.slice ab nb cb) l2)(o1:eu 258 32 (l1.map aaw))(o2:eu 258 32 (l2.map aaw))(h1:W0.heap.size+1<aaW)(h2:W0.heap.size+1<abg) : ∀W',But (fun x=>x=W0.heap.size∨x=W0.heap.size+1) W W'→FR W0 (.returned (.tuple #[.agg #[.slice aa na ca],.agg #[.slice ab nb cb]])) W':=by
 intro W' hb;have key: ∀(base:Nat)(v:aab)(l:List dK),W0.heap.size+1<base→bq W base v l→∀W'',But (fun x=>x<W0.heap.size) W' W''→bq W'' base v l:=fun base v l hl hd W'' hb2=>hd.congr fun k cs t ht hk hh=>by have:=(hd.inv hk).1;have hz:=(Array.getElem?_eq_some_iff.1 hh).1;rw[hb2.block k (Nat.lt_of_lt_of_le hz hb.size) (by omega),hb.block k hz (by omega)];exact hh
 obtain⟨a1,c1,e1,H1⟩ :=(key _ _ _ h1 d1 W' (But.refl _ _)).hds;obtain⟨a2,c2,e2,H2⟩ :=(key _ _ _ h2 d2 W' (But.refl _ _)).hds;refine⟨l1.map aaw,l2.map aaw,a1,c1,a2,c2,by rw[e1,e2],o1,o2,fun W'' hb2=> ?_,?_⟩;·obtain⟨b1,k1,g1,G1⟩ :=(key _ _ _ h1 d1 W'' hb2).hds;obtain⟨b2,k2,g2,G2⟩ :=(key _ _ _ h2 d2 W'' hb2).hds;rw[e1]at g1;rw[e2]at g2;simp only[aa1]at g1 g2;rw[g1.1,g2.1];exact⟨G1,G2⟩
 ·exact(h.but.trans (Z:=fun x=>W0.heap.size≤x) hb (fun i _ e=>e) (fun i _ e=>by omega)).below (aap _) (fun i hi e=>by omega)
theorem M6 (hC : iI) (ao : Option aat) (n cap : Nat) (W0 : aaa) (hn : n ≤ 1048576) (hc : CodeIn W0 ao n) :
    aax Tryd.prog 14 #[.slice ao n cap] W0 (FR W0) := by
  have hb1 : aah W0.heap.size W0 (W0.alloc (.cells #[.slice none 0 0] 25)) := (aas _ _).alloc (aap _) _
  have hsz1 : (W0.alloc (.cells #[.slice none 0 0] 25)).heap.size = W0.heap.size + 1 := by simp
  have hb2 : aah (W0.heap.size + 1) (W0.alloc (.cells #[.slice none 0 0] 25)) ((W0.alloc (.cells #[.slice none 0 0] 25)).alloc (.cells #[.slice none 0 0] 25)) := (aas _ _).alloc (by simp) _
  have hsz2 : ((W0.alloc (.cells #[.slice none 0 0] 25)).alloc (.cells #[.slice none 0 0] 25)).heap.size = W0.heap.size + 2 := by simp
  have HB := ah (hb1.trans (hb2.mono (by omega)))
  have kQ := ah (aC (aav W0 (.cells #[.slice none 0 0] 25)) (by rw [hsz1]; exact hb2))
  have dR : Hid (((W0.alloc (.cells #[.slice none 0 0] 25)).alloc (.cells #[.slice none 0 0] 25)).heap[W0.heap.size + 1]? = some (.cells #[.slice none 0 0] 25)) := by show _ = _; rw [← hsz1]; exact aav _ _
  have HC := ah (hc.below HB.out)
  have HZ := ah hsz2
  clear hb1 hb2 hsz2 hc
  go_enter Tryd.func14, Tryd.ntmps14
  go_upto_region 1 with fail
  clear hsz1
  generalize (W0.alloc (.cells #[.slice none 0 0] 25)).alloc (.cells #[.slice none 0 0] 25) = W1 at *
  go_wp2_with fail
  refine (GQ ao n cap W1 hn).mono ?_
  rintro e W2 ⟨rfl, hs2, hg2⟩
  have HT2 : Hid (Tw W0 W2 W1.heap.size ao n cap 0) := by
    have hb : aah W1.heap.size W1 W2 := ⟨hg2.os, hg2.tape, hg2.output, hg2.size, fun i hi => hg2.block i hi (by simp)⟩
    exact ⟨Sr.start HC.out hs2 hg2, (But.of_below (X := fun x => W0.heap.size ≤ x) HB.out).trans (But.of_below (X := fun x => W0.heap.size ≤ x) hb) (fun i _ e => e) (fun i _ e => e), aC kQ.out hb, aC dR.out hb, by have := HZ.out; omega⟩
  clear hs2 hg2 kQ dR HB HC HZ
  generalize W1.heap.size = b at *
  go_wp2_with fail
  refine (Dx hC b b ao n cap 0 W2 hn (by decide) HT2.out.sr).mono ?_
  rintro e W3 ⟨v1, l1, a1, rfl, hd1, hm1, ha1, hs3, hb3⟩
  obtain ⟨av, cv, rfl⟩ := hm1.vals
  have hB3 : aah W3.heap.size W3 W3 := aas _ _
  have q2 := aav W3 (.cells #[.slice av l1.length cv] 25)
  have q3 := (aas W3.heap.size W3).alloc (aap _) (.cells #[.slice av l1.length cv] 25)
  have UJ := ah ((HT2.out.src hs3 hb3).below q3)
  have Cs := ah (hm1.below q3)
  have BI := ah q2
  have HD1 := ah hd1
  have HA1 : Hid (a1 ≤ 200) := ah (by omega)
  have bY : Hid (∀ k, rQ (.slice av l1.length cv) l1 k → k < W3.heap.size) := ah fun k hk => hm1.ahh hk
  have HS2 : Hid (b < W2.heap.size ∧ W2.heap.size ≤ W3.heap.size ∧ W3.heap.size ≤ (W3.alloc (.cells #[.slice av l1.length cv] 25)).heap.size) := ah ⟨HT2.out.sr.lt, hb3.size, q3.size⟩
  clear hd1 hm1 ha1 hs3 hb3 hB3 q2 q3 HT2
  go_wp2_with fail
  generalize W3.alloc (.cells #[.slice av l1.length cv] 25) = W4 at *
  refine (Dx hC b b ao n cap a1 W4 hn (by have := HA1.out; omega) UJ.out.sr).mono ?_
  rintro e W5 ⟨v2, l2, a2, rfl, hd2, hm2, ha2, hs5, hb5⟩
  obtain ⟨bv, dv, rfl⟩ := hm2.vals
  have ahY := Cs.out.WU UJ.out.sr hb5
  have q2 := aav W5 (.cells #[.slice bv l2.length dv] 25)
  have q3 := (aas W5.heap.size W5).alloc (aap _) (.cells #[.slice bv l2.length dv] 25)
  have TK := ah (aC (UJ.out.sr.other hb5 (by decide) BI.out) q3)
  have LA := ah ((UJ.out.src hs5 hb5).below q3)
  have ah5 := ah (ahY.below q3)
  have gW := ah (hm2.below q3)
  have vS := ah q2
  have HD2 := ah hd2
  have HA2 : Hid (a2 ≤ 400) := ah (by have := HA1.out; omega)
  have fJ : Hid (W3.heap.size < W4.heap.size ∧ W4.heap.size ≤ W5.heap.size) := ah ⟨(Array.getElem?_eq_some_iff.1 BI.out).1, hb5.size⟩
  have qw : Hid (W5.heap.size ≤ (W5.alloc (.cells #[.slice bv l2.length dv] 25)).heap.size) := ah q3.size
  clear hd2 hm2 ha2 hs5 hb5 q2 q3 UJ BI Cs HA1 ahY
  go_wp2_with fail
  generalize W5.alloc (.cells #[.slice bv l2.length dv] 25) = W6 at *
  refine (LA.out.sr.zm hn (by have := HA2.out; omega) 10 (by decide) (by decide)).mono ?_
  rintro e W7 ⟨f, a3, rfl, ze, hs7, kZ⟩
  have wQ := ah (LA.out.src hs7 kZ)
  have Bd := ah (LA.out.sr.other kZ (by decide) TK.out)
  have HY7 := ah (LA.out.sr.other kZ (by decide) vS.out)
  have XT := ah (ah5.out.WU LA.out.sr kZ)
  have Q3 := ah (gW.out.WU LA.out.sr kZ)
  have O0 : Hid (a3 ≤ 500) := ah (by have := HA2.out; omega)
  have vR : Hid (W6.heap.size ≤ W7.heap.size) := ah kZ.size
  clear ze hs7 kZ LA TK vS ah5 gW HA2
  cases f
  · have t5 := aj Bd.out 0
    have HE := ah (Ux wQ.out Bd.out HY7.out XT.out Q3.out (HD1.out.mono (by decide) (by decide)) (HD2.out.mono (by decide) (by decide)) (by have h0 := wQ.out.lt; have h1 := HS2.out; omega) (by have h0 := wQ.out.lt; have h1 := HS2.out; have h2 := fJ.out; omega))
    obtain ⟨s2, f2, s3, f3, s3', f3', s2', f2', t6, t5, t6', t5', k0, k1, k2, k3⟩ := Oh wQ.out.x2 wQ.out.x3 Bd.out HY7.out (by omega) (by have h0 := wQ.out.lt; have h1 := HS2.out; omega) (by have h0 := wQ.out.lt; have h1 := HS2.out; omega) (by have h0 := wQ.out.lt; have h1 := HS2.out; have h2 := fJ.out; omega) (by have h0 := wQ.out.lt; have h1 := HS2.out; have h2 := fJ.out; omega)
    go_upto_region 6 with fail
    go_region
    all_goals
      go_wp2_with fail
      refine aaL (v := .tuple #[.agg #[.slice av l1.length cv], .agg #[.slice bv l2.length dv]]) (by simp [aaK, Tryd.results14, go_sem, k0, k1, k2, k3]) rfl ?_
      exact aea
  · have t5 := aj Bd.out 0
    go_wp2_with fail
    refine (MW b b ao n cap a3 W7 W2.heap.size W3.heap.size _ l1 hn (by have := O0.out; omega) wQ.out.sr XT.out bY.out HD1.out HS2.out.1 (by have h1 := HS2.out; have h2 := fJ.out; have h3 := qw.out; have h4 := vR.out; omega) (by have h1 := HS2.out; have h2 := fJ.out; have h3 := qw.out; have h4 := vR.out; omega)).mono ?_
    rintro e W8 ⟨v3, l3, a4, rfl, hd3, mU, AA, TS, jS⟩
    obtain ⟨xv, xc, rfl⟩ := mU.vals
    have h0 := wQ.out.lt
    have h1 := HS2.out
    have h2 := fJ.out
    have h3 := qw.out
    have h4 := vR.out
    have hk : ∀ (k : Nat) (o : Obj), (k < b ∨ W3.heap.size ≤ k) → W7.heap[k]? = some o → W8.heap[k]? = some o := fun k o hk hh => by
      rw [jS.block k (Array.getElem?_eq_some_iff.1 hh).1 (by omega)]; exact hh
    have FI : Tw W0 W8 b ao n cap a4 := ⟨TS, wQ.out.but.trans jS (fun i _ e => e) (fun i _ e => by omega), hk _ _ (by omega) wQ.out.x2, hk _ _ (by omega) wQ.out.x3, h0⟩
    have NC := hk _ _ (by omega) Bd.out
    have OA := hk _ _ (by omega) HY7.out
    have aeV : bq W8 W4.heap.size (.slice bv l2.length dv) l2 := Q3.out.congr fun k cs t ht hi hh => hk k _ (aal (by have := (Q3.out.inv hi).1; omega)) hh
    have s5 := aj NC 0
    have f5 := bL NC 0
    have F4 := ah (FI.keep ((But.refl (fun x => x = W3.heap.size) W8).set W3.heap.size 0 (.slice xv l3.length xc) rfl) (fun x hx => by omega))
    have HX9 : Hid ((W8.setCell ⟨W3.heap.size, 0, none⟩ (.slice xv l3.length xc)).heap[W3.heap.size]? = some (.cells #[.slice xv l3.length xc] 25)) := by
      have := aL NC 0 (.slice xv l3.length xc)
      exact ah (by simpa using this)
    have HY9 := ah ((ay W8 W3.heap.size 0 (.slice xv l3.length xc) W5.heap.size (by omega)).trans OA)
    have am7 := ah (mU.ai6 NC (.slice xv l3.length xc))
    have amM := ah (aeV.ai6 NC (.slice xv l3.length xc))
    have HD3 := ah hd3
    clear h0 h1 h2 h3 h4 hk FI NC OA aeV hd3 mU AA TS jS wQ Bd HY7 XT Q3
    go_upto_region 6 with fail
    clear s5 f5 t5
    generalize W8.setCell ⟨W3.heap.size, 0, none⟩ (.slice xv l3.length xc) = W9 at *
    have HE := ah (Ux F4.out HX9.out HY9.out am7.out amM.out HD3.out (HD2.out.mono (by decide) (by decide)) (by have h0 := F4.out.lt; have h1 := HS2.out; omega) (by have h0 := F4.out.lt; have h1 := HS2.out; have h2 := fJ.out; omega))
    obtain ⟨s2, f2, s3, f3, s3', f3', s2', f2', t6, t5, t6', t5', k0, k1, k2, k3⟩ := Oh F4.out.x2 F4.out.x3 HX9.out HY9.out (by omega) (by have h0 := F4.out.lt; have h1 := HS2.out; omega) (by have h0 := F4.out.lt; have h1 := HS2.out; omega) (by have h0 := F4.out.lt; have h1 := HS2.out; have h2 := fJ.out; omega) (by have h0 := F4.out.lt; have h1 := HS2.out; have h2 := fJ.out; omega)
    go_region
    all_goals
      go_wp2_with fail
      refine aaL (v := .tuple #[.agg #[.slice xv l3.length xc], .agg #[.slice bv l2.length dv]]) (by simp [aaK, Tryd.results14, go_sem, k0, k1, k2, k3]) rfl ?_
      exact aea
theorem Ko(hC:iI)(ao:Option aat)(n cap:Nat)(W0:aaa)(hn:n≤1048576)(hc:CodeIn W0 ao n) :
    aax Tryd.prog 4 #[.slice ao n cap] W0 (FR W0) :=by
  have hb1:aah W0.heap.size W0 (W0.alloc (.cells #[.slice none 0 0] 25)) :=(aas _ _).alloc (aap _) _
  have hsz1:(W0.alloc (.cells #[.slice none 0 0] 25)).heap.size=W0.heap.size+1:=by simp
  have hb2:aah (W0.heap.size+1) (W0.alloc (.cells #[.slice none 0 0] 25)) ((W0.alloc (.cells #[.slice none 0 0] 25)).alloc (.cells #[.slice none 0 0] 25)) :=(aas _ _).alloc (by simp) _
  have hsz2:((W0.alloc (.cells #[.slice none 0 0] 25)).alloc (.cells #[.slice none 0 0] 25)).heap.size=W0.heap.size+2:=by simp
  have HB:=ah (hb1.trans (hb2.mono (by omega)))
  have kQ:=ah (aC (aav W0 (.cells #[.slice none 0 0] 25)) (by rw[hsz1];exact hb2))
  have dR:Hid (((W0.alloc (.cells #[.slice none 0 0] 25)).alloc (.cells #[.slice none 0 0] 25)).heap[W0.heap.size+1]?=some (.cells #[.slice none 0 0] 25)) :=by show _=_;rw[←hsz1];exact aav _ _
  have HC:=ah (hc.below HB.out)
  have HZ:=ah hsz2
  clear hb1 hb2 hsz2 hc
  go_enter Tryd.func4,Tryd.ntmps4
  go_upto_region 1 with fail
  clear hsz1
  generalize(W0.alloc (.cells #[.slice none 0 0] 25)).alloc (.cells #[.slice none 0 0] 25)=W1 at*
  go_wp2_with fail
  refine(M6 hC ao n cap W1 hn HC.out).mono ?_
  rintro e W2⟨A,B,aa,ca,ab,cb,rfl,ha,hb,UZ,hbl⟩
  have x2:=aC kQ.out hbl
  have x3:=aC dR.out hbl
  have s2:=aj x2 0
  have f2:=bL x2 0
  have a1:(W2.setCell ⟨W0.heap.size,0,none⟩ (.slice aa A.length ca)).heap[W0.heap.size]?=some (.cells #[.slice aa A.length ca] 25) :=by have:=aL x2 0 (.slice aa A.length ca);simpa using this
  have a2:=(ay W2 W0.heap.size 0 (.slice aa A.length ca) (W0.heap.size+1) (by omega)).trans x3
  have s3:=aj a2 0
  have f3:=bL a2 0
  have b1:((W2.setCell ⟨W0.heap.size,0,none⟩ (.slice aa A.length ca)).setCell ⟨W0.heap.size+1,0,none⟩ (.slice ab B.length cb)).heap[W0.heap.size+1]?=some (.cells #[.slice ab B.length cb] 25) :=by have:=aL a2 0 (.slice ab B.length cb);simpa using this
  have b2:=(ay _ (W0.heap.size+1) 0 (.slice ab B.length cb) W0.heap.size (by omega)).trans a1
  have k0:=aj b2 0
  have k1:=aj b1 0
  have hbs:But (fun x=>x<W1.heap.size) W2 ((W2.setCell ⟨W0.heap.size,0,none⟩ (.slice aa A.length ca)).setCell ⟨W0.heap.size+1,0,none⟩ (.slice ab B.length cb)) :=((But.refl _ W2).set W0.heap.size 0 _ (by have:=HZ.out;show _<_;omega)).set (W0.heap.size+1) 0 _ (by have:=HZ.out;show _<_;omega)
  have hbz:But (fun x=>W0.heap.size≤x) W2 ((W2.setCell ⟨W0.heap.size,0,none⟩ (.slice aa A.length ca)).setCell ⟨W0.heap.size+1,0,none⟩ (.slice ab B.length cb)) :=((But.refl _ W2).set W0.heap.size 0 _ (aap _)).set (W0.heap.size+1) 0 _ (Nat.le_succ _)
  have HE:Hid (FR W0 (.returned (.tuple #[.agg #[.slice aa A.length ca],.agg #[.slice ab B.length cb]])) ((W2.setCell ⟨W0.heap.size,0,none⟩ (.slice aa A.length ca)).setCell ⟨W0.heap.size+1,0,none⟩ (.slice ab B.length cb))) :=by
    refine ah ⟨A,B,aa,ca,ab,cb,rfl,ha,hb,fun W'' h=>UZ W'' (hbs.trans h (fun i _ e=>e) (fun i _ e=>by have:=HZ.out;have e':i<W0.heap.size:=e;show _<_;omega)),?_⟩
    have hb0:But (fun x=>W0.heap.size≤x) W0 W2:=(But.of_below HB.out).trans (But.of_below (X:=fun x=>W0.heap.size≤x) hbl) (fun i _ e=>e) (fun i _ e=>e)
    exact(hb0.trans (Z:=fun x=>W0.heap.size≤x) hbz (fun i _ e=>e) (fun i _ e=>e)).below (aap _) (fun i hi e=>by have e':W0.heap.size≤i:=e;omega)
  clear hbs hbz UZ hbl x2 x3 a1 a2 b1 b2 kQ dR
  go_wp2_with fail
  refine aaL (v:= .tuple #[.agg #[.slice aa A.length ca],.agg #[.slice ab B.length cb]]) (by simp[aaK,Tryd.results4,go_sem,k0,k1]) rfl ?_
  exact HE.out
theorem JA(b:Nat)(ao:Option aat)(n cap:Nat)(a sd:Int)(w:aaa)(hn:n≤1048576)(ha0:0≤a)(ha2:a≤274877906944)(hs0:0≤sd)(hs1:sd<2147483648)(hs:bV w b (.slice ao n cap) a sd)(hc:Code w b ao n) :aax Tryd.prog 25 #[.pointer (some ⟨b,0,none⟩)] w fun e w'=>rC w b (.slice ao n cap) a 18 80 e w':=by
 have HS:=ah hs;have HC:=ah hc;have hb:=hs.lt;clear hs hc;go_enter Tryd.func25,Tryd.ntmps25;go_wp2_with fail;refine(lF b ao n cap a sd 6 _ hn (by omega) (by omega) ha0 (by omega) hs0 hs1 HS.out HC.out).mono ?_;rintro e w1⟨y,a1,yf,rfl,hy0,hy1,ze,AA,zD,hsd1,iN,hg1⟩;obtain⟨N,rfl⟩ :=aaY hy0;have pU:=ah iN;have xL:=ah hg1;clear iN hg1;go_wp2;go_loopw [3,4](fun ov kv wr=>∃(k:Nat)(t:ByteArray)(a2 mR:Int),k≤N∧kv= .int .i64 (k:Int)∧ov= .string t∧t.size+16*k≤16*N∧a≤a2∧a2+3*(k:Int)≤a+3+3*(N:Int)∧0≤mR∧mR<2147483648∧bV wr b (.slice ao n cap) a2 mR∧w.grownBy wr (some b))(fun _ kv _=>(intOf kv).toNat);case atStart=>exact⟨N,⟨#[]⟩,a1,yf,aap _,rfl,rfl,by show 0+16*N≤16*N;omega,by omega,by omega,zD,hsd1,pU.out,xL.out⟩
 case round=>
  obtain⟨k,t,a2,mR,hkN,rfl,rfl,htk,FC,Fg,hd0,hd1,K8,hgr⟩ :=hrel;have O7:=ah K8;have I1:=ah hgr;have hbr:=K8.lt;clear K8 hgr;by_cases hk:0<k
  ·have hkz:(0:Int)<(k:Int) :=by omega
   go_wp2_with fail;refine(lF b ao n cap a2 mR 7 _ hn (by omega) (by omega) (by omega) (by omega) hd0 hd1 (by exact O7.out.alloc _) (by exact(HC.out.kept I1.out).alloc _)).mono ?_;rintro e w3⟨x,a3,Og,rfl,hx0,hx1,NV,ha8,hd4,hd5,hs3,hg3⟩;obtain⟨X,rfl⟩ :=aaY hx0;obtain⟨v,hv,hvm⟩ :=IY hg3 hbr 16 (by decide+kernel) X (by show X<7;omega);have HR:=ah (And.intro hs3 (bR I1.out (bR (World.grownBy_alloc wr _ (some b)) hg3)));clear hs3 hg3 O7 I1;have hxz:(X:Int)<7:=by omega
   exact aiH
  ·exact ai5
theorem J4(b:Nat)(ao:Option aat)(n cap:Nat)(a sd:Int)(w:aaa)(hn:n≤1048576)(ha0:0≤a)(ha2:a≤274877906944)(hs0:0≤sd)(hs1:sd<2147483648)(hs:bV w b (.slice ao n cap) a sd)(hc:Code w b ao n) :aax Tryd.prog 24 #[.pointer (some ⟨b,0,none⟩)] w fun e w'=>rC w b (.slice ao n cap) a 21 96 e w':=by
 have HS:=ah hs;have HC:=ah hc;have hb:=hs.lt;clear hs hc;go_enter Tryd.func24,Tryd.ntmps24;go_wp2_with fail;refine(lF b ao n cap a sd 7 _ hn (by omega) (by omega) ha0 (by omega) hs0 hs1 HS.out HC.out).mono ?_;rintro e w1⟨y,a1,yf,rfl,hy0,hy1,ze,AA,zD,hsd1,iN,hg1⟩;obtain⟨N,rfl⟩ :=aaY hy0;have pU:=ah iN;have xL:=ah hg1;clear iN hg1;go_wp2;go_loopw [3,4](fun ov kv wr=>∃(k:Nat)(t:ByteArray)(a2 mR:Int),k≤N∧kv= .int .i64 (k:Int)∧ov= .string t∧t.size+16*k≤16*N∧a≤a2∧a2+3*(k:Int)≤a+3+3*(N:Int)∧0≤mR∧mR<2147483648∧bV wr b (.slice ao n cap) a2 mR∧w.grownBy wr (some b))(fun _ kv _=>(intOf kv).toNat);case atStart=>exact⟨N,⟨#[]⟩,a1,yf,aap _,rfl,rfl,by show 0+16*N≤16*N;omega,by omega,by omega,zD,hsd1,pU.out,xL.out⟩
 case round=>
  obtain⟨k,t,a2,mR,hkN,rfl,rfl,htk,FC,Fg,hd0,hd1,K8,hgr⟩ :=hrel;have O7:=ah K8;have I1:=ah hgr;have hbr:=K8.lt;clear K8 hgr;by_cases hk:0<k
  ·have hkz:(0:Int)<(k:Int) :=by omega
   go_wp2_with fail;refine(lF b ao n cap a2 mR 10 _ hn (by omega) (by omega) (by omega) (by omega) hd0 hd1 (by exact O7.out.alloc _) (by exact(HC.out.kept I1.out).alloc _)).mono ?_;rintro e w3⟨x,a3,Og,rfl,hx0,hx1,NV,ha8,hd4,hd5,hs3,hg3⟩;obtain⟨X,rfl⟩ :=aaY hx0;obtain⟨v,hv,hvm⟩ :=IY hg3 hbr 16 (by decide+kernel) X (by show X<10;omega);have HR:=ah (And.intro hs3 (bR I1.out (bR (World.grownBy_alloc wr _ (some b)) hg3)));clear hs3 hg3 O7 I1;have hxz:(X:Int)<10:=by omega
   exact aiH
  ·exact ai5
def Z6(m0 b:Nat)(ao:Option aat)(n cap:Nat)(a:Int)(N:Nat)(W:aaa)(e:aaT)(W':aaa) :Prop:=∃(t:ByteArray)(a':Int),e= .returned (.string t)∧t.size≤N∧a'≤a+21∧Sr m0 b ao n cap a' W'∧But (fun x=>x=b) W W'
theorem Sr.drawn {m0 b:Nat} {ao:Option aat} {n cap:Nat} {a da:Int} {N:Nat} {W W':aaa} {e:aaT}(h:Sr m0 b ao n cap a W)(hd:da≤21)(hD:rC W b (.slice ao n cap) a da N e W') :Z6 m0 b ao n cap a N W e W':=by obtain⟨t,a2,mR,h1,h2,h3,h4,h5,h6,h7,h8⟩ :=hD;exact⟨t,a2,h1,h2,by omega,h.moved h8 h7 h5 h6 h3,But.Ep h8⟩
theorem Sr.pattern {m0 b:Nat} {ao:Option aat} {n cap:Nat} {a:Int} {W:aaa}(h:Sr m0 b ao n cap a W)(hn:n≤1048576)(ha:a≤1000000) :aax Tryd.prog 24 #[.pointer (some ⟨b,0,none⟩)] W (Z6 m0 b ao n cap a 96 W) :=by obtain⟨sd,h1,h2,h3⟩ :=h.src;exact(J4 b ao n cap a sd W hn h.lo (by omega) h1 h2 h3 h.codes).mono fun e w' hD=>h.drawn (by decide) hD
theorem Sr.text {m0 b:Nat} {ao:Option aat} {n cap:Nat} {a:Int} {W:aaa}(h:Sr m0 b ao n cap a W)(hn:n≤1048576)(ha:a≤1000000) :aax Tryd.prog 25 #[.pointer (some ⟨b,0,none⟩)] W (Z6 m0 b ao n cap a 80 W) :=by obtain⟨sd,h1,h2,h3⟩ :=h.src;exact(JA b ao n cap a sd W hn h.lo (by omega) h1 h2 h3 h.codes).mono fun e w' hD=>h.drawn (by decide) hD
theorem Sr.aaS {m0 b:Nat} {ao:Option aat} {n cap:Nat} {a:Int} {W:aaa}(h:Sr m0 b ao n cap a W)(hn:n≤1048576)(ha:a≤1000000)(t:ByteArray)(ht:t.size≤96) :aax Tryd.prog 23 #[.pointer (some ⟨b,0,none⟩),.string t] W (Z6 m0 b ao n cap a (t.size+1) W) :=by obtain⟨sd,h1,h2,h3⟩ :=h.src;exact(Vn b ao n cap a sd t W hn (by omega) h.lo (by omega) h1 h2 h3 h.codes).mono fun e w' hD=>h.drawn (by decide) hD
def Lk2(w:aaa)(e:aaT)(w':aaa) :Prop:=∃(p t:ByteArray),e= .returned (.tuple #[.string p,.string t])∧t.size≤100000∧aah w.heap.size w w'
theorem l5 {w w1 w':aaa}(h1:aah w.heap.size w w1)(hb:But (fun x=>x=w.heap.size) w1 w') :aah w.heap.size w w':=h1.trans (hb.below h1.size fun i hi e=>by have e':i=w.heap.size:=e;omega)
theorem wz(ao:Option aat)(n cap:Nat)(w:aaa)(hn:n≤1048576)(hc:CodeIn w ao n) :aax Tryd.prog 10 #[.slice ao n cap] w (Lk2 w) :=by
 have HC:=ah hc;clear hc;go_enter Tryd.func10,Tryd.ntmps10;go_wp2_with fail;refine(GQ ao n cap _ hn).mono ?_;rintro e w1⟨rfl,hs1,hg1⟩;have HS:=ah (Sr.start HC.out hs1 hg1);have HB:Hid (aah w.heap.size w w1) :=⟨hg1.os,hg1.tape,hg1.output,hg1.size,fun i hi=>hg1.block i hi (by simp)⟩;clear hs1 hg1;go_wp2_with fail;refine(HS.out.zm hn (by omega) 30 (by decide) (by decide)).mono ?_;rintro e w2⟨f,a2,rfl,ha2,hs2,hb2⟩;have HS2:=ah hs2;have HB2:=ah (l5 HB.out hb2);clear hs2 hb2 HS HB;cases f
 ·go_wp2_with fail;refine(HS2.out.zm hn (by omega) 12 (by decide) (by decide)).mono ?_;rintro e w3⟨f,a3,rfl,ze,hs3,hb3⟩;have fJ:=ah hs3;have HB3:=ah (l5 HB2.out hb3);clear hs3 hb3 HS2 HB2;cases f
  ·go_wp2_with fail;refine(fJ.out.zm hn (by omega) 40 (by decide) (by decide)).mono ?_;rintro e w4⟨f,a4,rfl,AA,hs4,hb4⟩;have qw:=ah hs4;have eF:=ah (l5 HB3.out hb4);clear hs4 hb4 fJ HB3;cases f;·go_wp2_with fail;refine(qw.out.pattern hn (by omega)).mono ?_;rintro e w5⟨p,a5,rfl,hp,FC,hs5,hb5⟩;have vR:=ah hs5;have eX:=ah (l5 eF.out hb5);clear hs5 hb5 qw eF;go_wp2_with fail;refine(vR.out.text hn (by omega)).mono ?_;rintro e w6⟨t,a6,rfl,ht,Fg,hs6,hb6⟩;have vZ:=ah (l5 eX.out hb6);clear hs6 hb6 vR eX;go_wp2_with fail;go_ret2;exact⟨p,t,rfl,by omega,vZ.out⟩
   ·go_wp2_with fail;refine(qw.out.pattern hn (by omega)).mono ?_;rintro e w5⟨p,a5,rfl,hp,FC,hs5,hb5⟩;have vR:=ah hs5;have eX:=ah (l5 eF.out hb5);clear hs5 hb5 qw eF;go_wp2_with fail;refine(vR.out.aaS hn (by omega) p hp).mono ?_;rintro e w6⟨q,a6,rfl,hq,Fg,hs6,hb6⟩;have LV:=ah hs6;have vZ:=ah (l5 eX.out hb6);clear hs6 hb6 vR eX;go_wp2_with fail;refine(LV.out.next hn (by omega) 2 (by decide) (by decide)).mono ?_;rintro e w7⟨k,a7,rfl,hk,NV,hs7,kZ⟩;have zb:=ah (l5 vZ.out kZ);clear hs7 kZ LV vZ;obtain⟨N,hN⟩ : ∃N:Nat,65536+k=N:=⟨_,rfl⟩;have Ob:(65536:Int)+(k:Int)=(N:Int) :=by omega
    have hN2:N≤65537:=by omega
    go_wp2_with fail;refine(Ar _ N _ (by decide) (by omega)).mono ?_;rintro e w8⟨r,rfl,hr,jS⟩;have Fx:=ah (zb.out.trans (jS.mono zb.out.size));have hr2:r.size≤65537:=aaR hr (by rw[show(⟨#[116]⟩ :ByteArray).size=1 from rfl];omega);clear jS zb hr;go_wp2_with fail;go_ret2;exact⟨q,r,rfl,by omega,Fx.out⟩
  ·go_wp2_with fail;refine(fJ.out.pattern hn (by omega)).mono ?_;rintro e w5⟨p,a5,rfl,hp,FC,hs5,hb5⟩;have vR:=ah hs5;have eX:=ah (l5 HB3.out hb5);clear hs5 hb5 fJ HB3;go_wp2_with fail;refine(vR.out.aaS hn (by omega) p hp).mono ?_;rintro e w6⟨q,a6,rfl,hq,Fg,hs6,hb6⟩;have LV:=ah hs6;have vZ:=ah (l5 eX.out hb6);clear hs6 hb6 vR eX;go_wp2_with fail;refine(LV.out.text hn (by omega)).mono ?_;rintro e w7⟨t,a7,rfl,ht,NV,hs7,kZ⟩;have zb:=ah (l5 vZ.out kZ);clear hs7 kZ LV vZ;go_wp2_with fail;go_ret2;exact⟨q,t,rfl,by omega,zb.out⟩
 ·go_wp2_with fail;refine(Ar _ 200 _ (by decide) (by decide)).mono ?_;rintro e w3⟨p,rfl,hp,hb3⟩;have fJ:=ah (HS2.out.below (hb3.mono (aap _)));have HB3:=ah (HB2.out.trans (hb3.mono HB2.out.size));clear hb3 HS2 HB2;go_wp2_with fail;refine(fJ.out.next hn (by omega) 9 (by decide) (by decide)).mono ?_;rintro e w7⟨k,a7,rfl,hk,NV,hs7,kZ⟩;have zb:=ah (l5 HB3.out kZ);clear hs7 kZ fJ HB3;obtain⟨N,hN⟩ : ∃N:Nat,300+k=N:=⟨_,rfl⟩;have Ob:(300:Int)+(k:Int)=(N:Int) :=by omega
  have hN2:N≤308:=by omega
  go_wp2_with fail;refine(Ar _ N _ (by decide) (by omega)).mono ?_;rintro e w8⟨r,rfl,hr,jS⟩;have Fx:=ah (zb.out.trans (jS.mono zb.out.size));have hr2:r.size≤308:=aaR hr (by rw[show(⟨#[97]⟩ :ByteArray).size=1 from rfl];omega);clear jS zb hr;go_wp2_with fail;go_ret2;exact⟨p,_,rfl,by rw[ByteArray.size_append];have:(⟨#[98]⟩ :ByteArray).size=1:=rfl;omega,Fx.out⟩
theorem Lu(D:List aT) : ∀(l:List Int),l.foldl (bu D) (-1)= -1
 | []=>rfl
 |x::l=>by rw[List.foldl_cons,Il,Lu D l]
theorem Nl(c:Nat)(a:Option aat)(D:List aT)(s:ByteArray)(w:aaa)(hs:s.size≤1048576)(hV:bP D)(h:dP w a D) :aax Tryd.prog 28 #[.agg #[.slice a D.length c],.string s] w fun e w'=>e= .returned (.bool (fK D ((runes s).foldl (bu D) 0)))∧aah w.heap.size w w':=by
 have hb0:aah w.heap.size w (w.alloc (.cells #[.slice a D.length c] 25)) :=(aas _ _).alloc (aap _) _;have hn0:=aav w (.cells #[.slice a D.length c] 25);have hz0:w.heap.size<(w.alloc (.cells #[.slice a D.length c] 25)).heap.size:=by simp
 have HB0:=ah hb0;have HV:=ah hV;have HH:=ah (h.below hb0);have qH:=ah hn0;have hD1:=hV.1;have hD2:=hV.2.1;clear h hV hb0 hn0;go_enter Tryd.func28,Tryd.ntmps28;go_upto_region 2 with fail;generalize w.alloc (.cells #[.slice a D.length c] 25)=W1 at*;have YU:=ah (World.iter_heap W1 s 0);have HB1:Hid (aah W1.heap.size W1 (W1.iter s 0)) :=(aas _ _).alloc (aap _) _;have Hz0:=ah hz0;clear hz0;go_wp2;generalize W1.iter s 0=W2 at*;obtain⟨B,hB⟩ : ∃B,W1.heap.size=B:=⟨_,rfl⟩;rw[hB]at YU;simp only[hB];have amV:=Nat.le_of_eq hB;clear hB;go_loopw [5](fun av wr=>∃(p f:Nat)(acc:List Int)(z:Int),av= .int .i64 z∧acc.foldl (bu D) 0=z∧ -1≤z∧z<D.length∧wr.heap[B]?=some (.stringIter s p)∧aah W1.heap.size W1 wr∧acc++runesFrom s f p=runes s∧s.size≤p+f)(fun _ wr=>s.size-wr.iterPos B);case atStart=>exact⟨0,s.size,[],0,rfl,rfl,by omega,by omega,YU.out,HB1.out,rfl,by omega⟩
 case round=>
  obtain⟨p,f,acc,z,rfl,hac,hz1,hz2,hit,hbel,hacc,hf⟩ :=hrel;have BA:=ah hac;clear hac YU HB1;by_cases hlt:p<s.size
  ·have hnx: ∀ty,(Instr.next (.pointer (some ⟨B,0,none⟩)) true ty).run Tryd.prog wr=_:=fun ty=>Lib.run_next_any_at wr B s p ty hit hlt;have hw:=width_le s p hlt;have hr:=rune_le s p;have hit2:=Lib.iterAt_heap wr B s p (p+(aaQ s p).2) hit;have aaG:=Lib.below_iterAt hbel (k:=B) amV s (p+(aaQ s p).2);have Zp:Hid (acc++ [((aaQ s p).1:Int)]++runesFrom s (f-1) (p+(aaQ s p).2)=runes s) :=by exact ahT
   have Hpos:=ah (iterPos_of hit);have acU:=ah hit2;have HB2:=ah aaG;clear hacc hit2 aaG hbel;generalize(aaQ s p).1=r at*;generalize(aaQ s p).2=n at*;generalize wr.iterAt B s (p+n)=wi at*;have y0:wi.cell? ⟨w.heap.size,0,none⟩=some (.slice a D.length c) :=aj (aC qH.out HB2.out) 0;have NG:=ah (BH c a D z (r:Int) wi HV.out ⟨hz1,hz2⟩ (HH.out.below HB2.out));have HSb:=ah (Wo HV.out ⟨hz1,hz2⟩ (r:Int));have uL:Hid ((acc++ [(r:Int)]).foldl (bu D) 0=bu D z (r:Int)) :=by show _=_;rw[aa7,BA.out];rfl
   generalize bu D z (r:Int)=z2 at*;go_wp2_with fail;refine NG.out.mono ?_;rintro e w5⟨rfl,hb5⟩;have eX:=ah (HB2.out.trans (hb5.mono HB2.out.size));have aja:Hid (w5.heap[B]?=some (.stringIter s (p+n))) :=by show _=_;rw[hb5.block B (Array.getElem?_eq_some_iff.1 acU.out).1];exact acU.out
   have hzb:=HSb.out;clear hb5 NG y0;by_cases hneg:z2= -1
   ·subst hneg;have VT:Hid ((runes s).foldl (bu D) 0= -1) :=by show _=_;rw[←Zp.out,aa7,uL.out,Lu]
    have y5:w5.cell? ⟨w.heap.size,0,none⟩=some (.slice a D.length c) :=aj (aC qH.out eX.out) 0;have U9:=ah (Af c a D (-1) w5 ⟨by omega,by omega⟩ (HH.out.below eX.out));go_wp2_with fail;refine U9.out.mono ?_;rintro e w6⟨rfl,hb6⟩;have vZ:=ah (HB0.out.trans ((eX.out.trans (hb6.mono eX.out.size)).mono HB0.out.size));clear hb6;go_wp2_with fail;go_ret;exact⟨by rw[VT.out];rfl,vZ.out⟩
   ·have hne:(z2== -1)=false:=by simpa using hneg
    go_wp2_with fail;go_roundw;case rel=>exact⟨p+n,f-1,acc++ [(r:Int)],z2,rfl,uL.out,hzb.1,hzb.2,aja.out,eX.out,Zp.out,by omega⟩
    case measure=>rw[iterPos_of aja.out,Hpos.out];omega
  ·have hnx: ∀ty,(Instr.next (.pointer (some ⟨B,0,none⟩)) true ty).run Tryd.prog wr=_:=fun ty=>Lib.run_next_end_at wr B s p ty hit (by omega);have VT:Hid ((runes s).foldl (bu D) 0=z) :=by show _=_;rw[runesFrom_end s f p hlt,List.append_nil]at hacc;rw[←hacc];exact BA.out
   have y5:wr.cell? ⟨w.heap.size,0,none⟩=some (.slice a D.length c) :=aj (aC qH.out hbel) 0;have U9:=ah (Af c a D z wr ⟨hz1,hz2⟩ (HH.out.below hbel));have rR:=ah (HB0.out.trans (hbel.mono HB0.out.size));clear hacc hit hbel;go_wp2_with fail;refine U9.out.mono ?_;rintro e w6⟨rfl,hb6⟩;have vZ:=ah (rR.out.trans (hb6.mono rR.out.size));clear hb6;go_wp2_with fail;go_ret;exact⟨by rw[VT.out];rfl,vZ.out⟩
theorem Nh(c:Nat)(a:Option aat)(D:List aT)(s:ByteArray)(w:aaa)(hs:s.size≤65536)(hc:dG s=0)(hV:bP D)(h:dP w a D)(hT:Tabs w) :aax Tryd.prog 11 #[.agg #[.slice a D.length c],.string s] w fun e w'=>e= .returned (.tuple #[.bool (fK D ((runes s).foldl (bu D) 0)),.int .i64 0])∧aah w.heap.size w w':=by
 have hb0:aah w.heap.size w (w.alloc (.cells #[.slice a D.length c] 25)) :=(aas _ _).alloc (aap _) _;have hn0:=aav w (.cells #[.slice a D.length c] 25);have HB0:=ah hb0;have HV:=ah hV;have HH:=ah (h.below hb0);have qH:=ah hn0;have HT:=ah (hT.below hb0);have HC:=ah hc;have hsz: ¬(65536:Int)<(s.size:Int) :=by omega
 have dsz:decide ((65536:Int)<(s.size:Int))=false:=decide_eq_false hsz;clear h hV hb0 hn0 hT hc;go_enter Tryd.func11,Tryd.ntmps11;go_upto_region 3 with fail;generalize w.alloc (.cells #[.slice a D.length c] 25)=W1 at*;have y0:W1.cell? ⟨w.heap.size,0,none⟩=some (.slice a D.length c) :=aj qH.out 0;have qD:=ah (Jt c a D W1 HV.out HH.out);go_wp2_with fail;refine qD.out.mono ?_;rintro e w2⟨rfl,hb2⟩;have wE:=ah (aC qH.out hb2);have HH2:=ah (HH.out.below hb2);have HB2:=ah (HB0.out.trans (hb2.mono HB0.out.size));have VF:=ah (CR s w2 (by omega) (HT.out.below hb2));clear hb2 qD y0 qH HH HB0 HT;go_wp2_with fail;refine VF.out.mono ?_;rintro e w3⟨rfl,hb3⟩;rw[HC.out];have y3:w3.cell? ⟨w.heap.size,0,none⟩=some (.slice a D.length c) :=aj (aC wE.out hb3) 0;have BA:=ah (Nl c a D s w3 (by omega) HV.out (HH2.out.below hb3));have HB3:=ah (HB2.out.trans (hb3.mono HB2.out.size))
 clear hb3 VF wE HH2 HB2;go_wp2_with fail;refine BA.out.mono ?_;rintro e w4⟨rfl,hb4⟩;have eF:=ah (HB3.out.trans (hb4.mono HB3.out.size));clear hb4;obtain⟨F,hF⟩ : ∃F,fK D ((runes s).foldl (bu D) 0)=F:=⟨_,rfl⟩;have HF:=ah hF;try rw[hF]
 clear hF;go_wp2_with fail;go_ret2;exact⟨by rw[HF.out];rfl,eF.out⟩
def ai9(D:List aT)(s:ByteArray)(w:aaa)(e:aaT)(w':aaa) :Prop:=∃f:Bool,e= .returned (.tuple #[.bool f,.int .i64 (dG s)])∧(dG s=0→f=fK D ((runes s).foldl (bu D) 0))∧aah w.heap.size w w'
theorem oo(c:Nat)(a:Option aat)(D:List aT)(s:ByteArray)(w:aaa)(hs1:s.size≤1048576)(hV:bP D)(h:dP w a D)(hT:Tabs w) :aax Tryd.prog 11 #[.agg #[.slice a D.length c],.string s] w (ai9 D s w) :=by
 by_cases hs:s.size≤65536
 ·by_cases hc:dG s=0;·refine(Nh c a D s w hs hc hV h hT).mono ?_;rintro e w'⟨rfl,hb⟩;exact⟨_,by rw[hc],fun _=>rfl,hb⟩
  have hb0:aah w.heap.size w (w.alloc (.cells #[.slice a D.length c] 25)) :=(aas _ _).alloc (aap _) _;have hn0:=aav w (.cells #[.slice a D.length c] 25);have HB0:=ah hb0;have HV:=ah hV;have HH:=ah (h.below hb0);have qH:=ah hn0;have HT:=ah (hT.below hb0);have HC:=ah hc;have hsz: ¬(65536:Int)<(s.size:Int) :=by omega
  have dsz:decide ((65536:Int)<(s.size:Int))=false:=decide_eq_false hsz;clear h hV hb0 hn0 hT hc;go_enter Tryd.func11,Tryd.ntmps11;go_upto_region 3 with fail;generalize w.alloc (.cells #[.slice a D.length c] 25)=W1 at*;have y0:W1.cell? ⟨w.heap.size,0,none⟩=some (.slice a D.length c) :=aj qH.out 0;have qD:=ah (Jt c a D W1 HV.out HH.out);go_wp2_with fail;refine qD.out.mono ?_;rintro e w2⟨rfl,hb2⟩;have wE:=ah (aC qH.out hb2);have HH2:=ah (HH.out.below hb2);have HB2:=ah (HB0.out.trans (hb2.mono HB0.out.size));have VF:=ah (CR s w2 (by omega) (HT.out.below hb2));clear hb2 qD y0 qH HH HB0 HT;go_wp2_with fail;refine VF.out.mono ?_;rintro e w3⟨rfl,hb3⟩;have HB3:=ah (HB2.out.trans (hb3.mono HB2.out.size));clear hb3 VF wE HH2 HB2;obtain⟨k,hk⟩ : ∃k,dG s=k:=⟨_,rfl⟩;have hcn: ¬k=0:=by rw[←hk];exact HC.out
  have HK:=ah hk;rw[hk];clear hk;have hkz:(k==0)=false:=by simpa using hcn
  have Y6:(k !=0)=true:=by simpa using hcn
  go_wp2_with fail;go_ret2;exact⟨false,by rw[HK.out];rfl,fun h0=>absurd h0 HC.out,HB3.out⟩
 ·have hac:dG s=2:=by unfold dG;rw[if_pos (by omega)]
  have hb0:aah w.heap.size w (w.alloc (.cells #[.slice a D.length c] 25)) :=(aas _ _).alloc (aap _) _;have hsz:(65536:Int)<(s.size:Int) :=by omega
  have HB0:=ah hb0;have Kk:=ah hac;clear hac hb0 hV h hT;go_enter Tryd.func11,Tryd.ntmps11;go_wp2_with fail;go_ret2;exact⟨false,by rw[Kk.out];rfl,fun h0=>absurd (Kk.out.symm.trans h0) (by decide),HB0.out⟩
end Go.Proofs.YtkbjimkngmlfcaaDoor
