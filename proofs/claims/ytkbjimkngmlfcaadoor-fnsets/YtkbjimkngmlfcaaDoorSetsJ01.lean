import Derived.Test.YtkbjimkngmlfcaaDoorSetsJ00
namespace Go.Proofs.YtkbjimkngmlfcaaDoor
open Go Go.RowKit
open Go renaming Value→aaa,World→aah,TypeId→aaF,heap_alloc_new→abl,run_underlying→aaY,frozen_of_row→aa1
open Go.ChangeMaps renaming setBlock→abf,heap_setBlock_same→ac1,heap_setBlock_other→ac2
open Go.Instr renaming findKey→acT,lookup→aau,mapUpdate→abd,makeMap→abE
open Go.MapKept renaming run_getObj_map→abu
open Go.Obj.cells renaming injEq→aa8
open Go.Result renaming andThen→aa7
open Go.Value renaming int→aa5,map→aaE,slice→aa4
open Go.World renaming ownsRow_nil→abn
open List renaming range→aaw,foldl_cons→aaU,getD_eq_getElem?_getD→aap,getElem?_eq_getElem→aas,getElem_mem→acA,foldl_append→abC,length_append→aa',length_singleton→abz,range_succ→aa9,filter_append→aaV,map_append→aax,mem_append_left→ab',map_congr_left→aaT,getElem_inj→acD,getElem?_append_left→aaA,nodup_append→abI,map_cons→abx,mem_of_getElem?→aav,getElem?_set→acE,getElem?_map→aaL,exists_mem_of_ne_nil→acI,map_singleton→abw,append_nil→acK,getElem?_mapIdx→acH
open Nat renaming le_refl→aaR,le_trans→abt
open Option renaming map_some→abp
open Option.some renaming injEq→aat,inj→aaK
open Or renaming inr→aab,inl→aal
set_option linter.unusedVariables false
set_option linter.unusedSimpArgs false
set_option maxRecDepth 100000
set_option linter.unusedSectionVars false
set_option maxHeartbeats 4000000
theorem aac {P:Prop}(h:P:=by
 refine⟨fun b e=>(fD b e).imp id (fun h=>Nat.le_trans (Nat.le_trans jJ.out.size bT.size) h),fun b e=> ?_⟩;have:mb=b:=by simpa using e
 subst this;first|exact yD.out|exact Or.inl rfl) :P:=h
theorem abo {P:Prop}(h:P:=by
 have:w.all (fun a=>decide (a<S))=false:=by exact WR
 rw[this];rfl) :P:=h
theorem zc4 {P:Prop}(h:P:=by
 try refine tn ?_
 refine wpAnyH_done (by kernel_rfl) ?_ _;have bY:=ah HP.1;have LB:Hid (But (bB sb (.map (some mb)) (.slice ad L.length cp)) W (W4.setCell ⟨sb,1,none⟩ (.slice (some ⟨g,0,none⟩) (L.length+1) c))) :=(((jJ.out.trans (But.of_below (X:=fun _=>False) bT) (Z:=bB sb (.map (some mb)) (.slice ad L.length cp)) (fun _ _ h=>h) (fun _ _ h=>h.elim)).trans dH (Z:=bB sb (.map (some mb)) (.slice ad L.length cp)) (fun _ _ h=>h) (fun _ _ h=>Or.inr (Or.inr h))).set sb 1 _ (Or.inl rfl));have HAT:Hid ((∀b,(Value.slice (some ⟨g,0,none⟩) (L.length+1) c).ownBlock=some b→(Value.slice ad L.length cp).ownBlock=some b∨W.heap.size≤b)∧∀b,Value.map (some mb)= .map (some b)→Value.map (some mb)=Value.map (some b)∨W.heap.size≤b) :=by exact aac
 clear gY dH fD HP hb5 hb4 dD dM nG fI lY f1;go_wp2_with fail;go_ret;exact⟨by rw[HI.out];rfl,_,_,by rw[HM.out];exact bY.out,LB.out,HAT.out.1,HAT.out.2⟩) :P:=h
theorem zc5 {P:Prop}(h:P:=by
 try refine tn ?_
 refine wpAnyH_done (by kernel_rfl) ?_ _;have bY:=ah HP.1;have LB:Hid (But (bB sb (.map none) (.slice ad L.length cp)) W (W4.setCell ⟨sb,1,none⟩ (.slice (some ⟨g,0,none⟩) (L.length+1) c))) :=(((jJ.out.trans (But.of_below (X:=fun _=>False) bT) (Z:=bB sb (.map none) (.slice ad L.length cp)) (fun _ _ h=>h) (fun _ _ h=>h.elim)).trans dH (Z:=bB sb (.map none) (.slice ad L.length cp)) (fun _ _ h=>h) (fun _ _ h=>Or.inr (Or.inr h))).set sb 1 _ (Or.inl rfl));have HAT:Hid ((∀b,(Value.slice (some ⟨g,0,none⟩) (L.length+1) c).ownBlock=some b→(Value.slice ad L.length cp).ownBlock=some b∨W.heap.size≤b)∧∀b,Value.map (some mb)= .map (some b)→Value.map none=Value.map (some b)∨W.heap.size≤b) :=by exact aac
 clear gY dH fD HP hb5 hb4 dD dM nG fI lY f1;go_wp2_with fail;go_ret;exact⟨by rw[HI.out];rfl,_,_,by rw[HM.out];exact bY.out,LB.out,HAT.out.1,HAT.out.2⟩) :P:=h
theorem aiy {P:Prop}(h:P:=by
 have hBd:Below W0.heap.size W0 ({heap:=W0.heap,tape:=W0.tape,drawn:=W0.drawn+1,os:=W0.os,output:=W0.output} :World) :=(Below.refl _ _).drew;generalize({heap:=W0.heap,tape:=W0.tape,drawn:=W0.drawn+1,os:=W0.os,output:=W0.output} :World)=W1 at*;try refine tn ?_
 refine tx 0 ?_ (hS:=hS);refine tx 1 ?_ (hS:=hS);refine tx 2 ?_ (hS:=hS);refine tx 3 ?_ (hS:=hS);refine tx 4 ?_ (v:= .agg #[.int .i64 x.1,.int .i64 x.2.1,.int .i64 x.2.2]) (hS:=hS);refine tx 5 ?_ (v:= .tuple #[.int .i64 (j:Int),.bool true]) (hS:=hS);refine tx 6 ?_ (hS:=hS);refine tx 7 ?_ (hS:=hS);refine tx 8 ?_ (hS:=hS);refine tx 9 ?_ (hS:=hS);refine tx 10 ?_ (hS:=hS);refine wpAnyH_done (by kernel_rfl) ?_ _;clear hS h2 c0 b0 b1 b2;have jX:=ah hBd;clear hBd;go_wp2_with fail;go_ret;exact⟨by rw[HM.out,HJ.out];rfl,_,_,by rw[HM.out];exact H0.out.below jX.out,But.of_below (by rw[wD.out];exact HW.out.trans (jX.out.mono (by rw[HZ.out];omega))),fun b hb=>Or.inl hb,fun b hb=>Or.inl hb⟩) :P:=h
theorem wC {P:Prop}(h:P:=by go_wp2_with fail;go_ret;exact⟨rfl,HB.out⟩) :P:=h
theorem aik {P:Prop}(h:P:=by have e1:W3.cell? ⟨sb,1,none⟩=some (.slice ad L.length cp) :=aj hb3 1;have fz3: ∀j,W3.frozen? ⟨sb,j,none⟩=false:=fun j=>frozen_of_row W3 sb j _ _ hb3;clear ho3 qc mJ HP hb3 hb2 d1 OH;go_wp2_with fail;go_ret;exact⟨by rw[HI.out];rfl,_,_,by rw[HM.out];exact bY.out,jJ.out,HAT.out.1,HAT.out.2⟩) :P:=h
theorem Zj {P:Prop}(h:P:=by
 rcases ho3.2 with⟨h1,_⟩| ⟨g,cap,cur,h1,_⟩;·exact absurd h1 wT
 ·exact⟨g,cap,h1⟩) :P:=h
theorem aaX {P:Prop}(h:P:=by go_wp2_with fail;go_ret;exact⟨by rw[xO.out,HE.out];rfl,HB0.out.trans (HB.out.mono HB0.out.size)⟩) :P:=h
theorem aak {P:Prop}(h:P:=by rw[hg2.block sb (by rw[hz1'];omega) (fun e=>xQ.out (by simpa using e.symm))];exact hb1) :P:=h
structure bN(X:Type)where
 step:X→Nat→X
 fin:X→Bool
section
variable {X Y:Type}
def bN.acc(K:bN X) :X→List Nat→Bool
 |x,[]=>K.fin x
 |x,a::w=>K.acc (K.step x a) w
def bN.aW(K:bN X)(S:Nat)(x:X) :jA:=fun w=>w.all (fun a=>decide (a<S)) &&K.acc x w
def bN.nexts(K:bN X)(S:Nat)(x:X) :List X:=(aaw S).map (K.step x)
theorem bN.Aa {K:bN X} {m:Nat} : ∀(w:List Nat)(x:X),(∀a∈w,a≤m)→K.aW (m+1) (w.foldl K.step x)=w.foldl kL (K.aW (m+1) x)
 | [],_,_=>rfl
 |a::w,x,h=>by
  have ha:a<m+1:=by have:=h a (by simp);omega
  rw[aaU,aaU,bN.Aa w _ (fun b hb=>h b (by simp[hb]))];congr 1;funext v;simp[kL,bN.aW,bN.acc,ha]
end
section
variable {X:Type} [DecidableEq X]
def bN.Cq(K:bN X)(Z:List X)(x0:X) :bK:=⟨fun q=>K.fin (Z.getD q x0),fun q a=>ix Z (K.step (Z.getD q x0) a)⟩
theorem bN.K6 {K:bN X} {S:Nat} {x0:X} {Z:List X}(h:fM (K.nexts S) x0 Z) {q a:Nat}(hq:q<Z.length)(ha:a<S) :K.step (Z.getD q x0) a∈Z:=by
 have h1:Z.getD q x0∈Z:=by rw[aap,aas hq,Option.getD_some];exact acA hq
 exact h.closed _ h1 _ (List.mem_map.2 ⟨a,List.mem_range.2 ha,rfl⟩)
theorem bN.shut {K:bN X} {S:Nat} {x0:X} {Z:List X}(h:fM (K.nexts S) x0 Z) :Shut (K.Cq Z x0) S Z.length:=fun q a hq ha=>lM (K.K6 h hq ha)
theorem bN.ajQ {K:bN X} {S:Nat} {x0:X} {Z:List X}(h:fM (K.nexts S) x0 Z) {q a:Nat}(hq:q<Z.length)(ha:a<S) :Z.getD ((K.Cq Z x0).nx q a) x0=K.step (Z.getD q x0) a:=by have:=lK (K.K6 h hq ha);show Z.getD (ix Z _) x0=_;rw[aap,this];rfl
theorem bN.Vt {K:bN X} {S:Nat} {x0:X} {Z:List X}(h:fM (K.nexts S) x0 Z) : ∀(w:List Nat)(q:Nat),q<Z.length→(∀a∈w,a<S)→(K.Cq Z x0).acc q w=K.acc (Z.getD q x0) w
 | [],q,_,_=>rfl
 |a::w,q,hq,hw=>by have ha:=hw a (by simp);show(K.Cq Z x0).acc ((K.Cq Z x0).nx q a) w=K.acc (K.step (Z.getD q x0) a) w;rw[bN.Vt h w _ (K.shut h q a hq ha) (fun b hb=>hw b (by simp[hb])),K.ajQ h hq ha]
theorem bN.Hg {K:bN X} {S:Nat} {x0:X} {Z:List X}(h:fM (K.nexts S) x0 Z) {q:Nat}(hq:q<Z.length) :(K.Cq Z x0).aW S q=K.aW S (Z.getD q x0) :=by
 funext w;unfold bK.aW bN.aW;by_cases hw: ∀a∈w,a<S;·rw[K.Vt h w q hq hw]
 ·exact abo
theorem bN.Uf {K:bN X} {S:Nat} {x0:X} {Z:List X}(h:fM (K.nexts S) x0 Z) :(K.Cq Z x0).aW S 0=K.aW S x0:=by obtain⟨h1,h2⟩ :=List.getElem?_eq_some_iff.1 h.head;rw[K.Hg h h1,aap,h.head];rfl
theorem bN.reached {K:bN X} {m:Nat} {x0:X} {Z:List X}(h:fM (K.nexts (m+1)) x0 Z) : ∀x∈Z,∃w:List Nat,(∀a∈w,a≤m)∧x=w.foldl K.step x0:=by
 refine h.all (fun x=>∃w:List Nat,(∀a∈w,a≤m)∧x=w.foldl K.step x0) ⟨[],by simp,rfl⟩ ?_;rintro x⟨w,hw,rfl⟩y hy;obtain⟨a,ha,rfl⟩ :=List.mem_map.1 hy;refine⟨w++ [a],fun b hb=> ?_,by rw[abC];rfl⟩;rcases List.mem_append.1 hb with h1|h1;·exact hw b h1
 ·rw[List.mem_singleton.1 h1];have:=List.mem_range.1 ha;omega
end
def iG(l:List Int) :Prop:=l.Pairwise (· < ·)
theorem Bv: ∀(l l':List Int),iG l→iG l'→(∀x,x∈l↔x∈l')→l=l'
 | [],[],_,_,_=>rfl
 | [],b::u,_,_,h=>absurd ((h b).2 (by simp)) (by simp)
 |a::t,[],_,_,h=>absurd ((h a).1 (by simp)) (by simp)
 |a::t,b::u,h1,h2,h=>by
  obtain⟨h3,h4⟩ :=List.pairwise_cons.1 h1;obtain⟨h5,h6⟩ :=List.pairwise_cons.1 h2;have e:a=b:=by
   rcases List.mem_cons.1 ((h a).1 (by simp))with e|e;·exact e
   ·rcases List.mem_cons.1 ((h b).2 (by simp))with e'|e';·exact e'.symm
    ·have:=h3 b e';have:=h5 a e;omega
  subst e;rw[Bv t u h4 h6 fun x=> ?_];constructor
  ·intro hx;have:=h3 x hx;rcases List.mem_cons.1 ((h x).1 (by simp[hx]))with e|e;·omega
   ·exact e
  ·intro hx;have:=h5 x hx;rcases List.mem_cons.1 ((h x).2 (by simp[hx]))with e|e;·omega
   ·exact e
theorem Tryd.infoArcD:(Tryd.prog.info? 44).map (fun i=>(i.zero,i.size,i.bytes))=some (some (.agg #[.int .i64 0,.int .i64 0]),2,16) :=by kernel_rfl
theorem Tryd.infoStD:(Tryd.prog.info? 42).map (fun i=>(i.zero,i.size,i.bytes))=some (some (.agg #[.bool false,.slice none 0 0,.int .i64 0]),3,40) :=by kernel_rfl
def dN(l:List (Int×Int)) :List aaa:=l.flatMap fun a=>[.int .i64 a.1,.int .i64 a.2]
theorem AZ(l:List (Int×Int))(a:Int×Int) :dN (l++ [a])=dN l++ [.int .i64 a.1,.int .i64 a.2] :=by simp[dN]
abbrev dK:=aaa×aT
def dS(l:List dK) :List aaa:=l.flatMap fun s=>[.bool s.2.1,s.1,.int .i64 s.2.2.2]
theorem BD(l:List dK)(s:dK) :dS (l++ [s])=dS l++ [.bool s.2.1,s.1,.int .i64 s.2.2.2] :=by simp[dS]
def iy(u v:aaa) :Prop:=u.ownBlock=none∨u.ownBlock≠v.ownBlock
structure bq(W:aah)(base:Nat)(v:aaa)(l:List dK) :Prop where
 row:W.ownsRow base 42 3 v l.length (dS l)
 aR: ∀s∈l,W.ownsRow base 44 2 s.1 s.2.2.1.length (dN s.2.2.1)
 apart:l.Pairwise fun s t=>iy s.1 t.1
theorem bq.nil(W:aah)(base:Nat) :bq W base (.slice none 0 0) [] :=⟨abn _ _ _ _,fun s hs=>by simp at hs,List.Pairwise.nil⟩
theorem bq.congr {W W':aah} {base:Nat} {v:aaa} {l:List dK}(h:bq W base v l)(hb: ∀(b:Nat)(cs:Array aaa)(t:aaF),(t=42∨t=44)→(v.ownBlock=some b∨∃s∈l,s.1.ownBlock=some b)→W.heap[b]?=some (.cells cs t)→W'.heap[b]?=some (.cells cs t)) :bq W' base v l:=by
 refine⟨aG h.row (fun b hk=> ?_),fun s hs=>aG (h.aR s hs) (fun b hk=> ?_),h.apart⟩;·exact Zr
 ·obtain⟨_,cur,h2⟩ :=aA (h.aR s hs) hk;rw[hb b cur _ (aab rfl) (aab ⟨s,hs,hk⟩) h2,h2]
theorem bq.below {W W':aah} {base:Nat} {v:aaa} {l:List dK}(h:bq W base v l)(hb:Below W.heap.size W W') :bq W' base v l:=h.congr fun b cs t _ _ hh=>aC hh hb
structure mI(W:aah)(base:Nat)(v:aaa)(l:List dK)(sb:Nat)(va:aaa)(f:Bool)(rs:List (Int×Int))(e:Int) :Prop where
 bZ:bq W base v l
 box:W.heap[sb]?=some (.cells #[.bool f,va,.int .i64 e] 42)
 aR:W.ownsRow base 44 2 va rs.length (dN rs)
 apart: ∀s∈l,iy s.1 va
 off:v.ownBlock≠some sb
 from_:base≤sb
theorem bq.start {W:aah} {base:Nat} {v:aaa} {l:List dK}(h:bq W base v l)(hbase:base≤W.heap.size)(f:Bool)(e:Int) :mI (W.alloc (.cells #[.bool f,.slice none 0 0,.int .i64 e] 42)) base v l W.heap.size (.slice none 0 0) f [] e:=by
 refine⟨h.below ((Below.refl _ _).alloc (aaR _) _),abl _ _,abn _ _ _ _,fun s _=> ?_,?_,hbase⟩;·exact Wy
 ·intro e';have:=(Array.getElem?_eq_some_iff.1 (aA h.row e').2.choose_spec).1;omega
theorem mI.congr {W W':aah} {base:Nat} {v:aaa} {l:List dK} {sb:Nat} {va:aaa} {f:Bool} {rs:List (Int×Int)} {e:Int}(h:mI W base v l sb va f rs e)(hb: ∀(b:Nat)(cs:Array aaa)(t:aaF),(t=42∨t=44)→W.heap[b]?=some (.cells cs t)→W'.heap[b]?=some (.cells cs t)) :mI W' base v l sb va f rs e:=by refine⟨h.bZ.congr fun b cs t ht _ hh=>hb b cs t ht hh,hb _ _ _ (aal rfl) h.box,aG h.aR (fun b hk=> ?_),h.apart,h.off,h.from_⟩;obtain⟨_,cur,h2⟩ :=aA h.aR hk;rw[hb b cur _ (aab rfl) h2,h2]
theorem mI.BU {W W1:aah} {base:Nat} {v:aaa} {l:List dK} {sb:Nat} {va ic:aaa} {f:Bool} {rs:List (Int×Int)} {e:Int} {a:Int×Int}(h:mI W base v l sb va f rs e)(hb:But (fun b=>va.ownBlock=some b) W W1)(ho:W1.ownsRow base 44 2 ic (rs.length+1) (dN rs++ [.int .i64 a.1,.int .i64 a.2]))(hat: ∀b,ic.ownBlock=some b→va.ownBlock=some b∨W.heap.size≤b) :mI (W1.setCell ⟨sb,1,none⟩ ic) base v l sb ic f (rs++ [a]) e∧W1.heap[sb]?=some (.cells #[.bool f,va,.int .i64 e] 42) :=by
 have hsb:W1.heap[sb]?=some (.cells #[.bool f,va,.int .i64 e] 42) :=by rw[hb.block sb (Array.getElem?_eq_some_iff.1 h.box).1 (fun e'=>by obtain⟨_,cur,h2⟩ :=aA h.aR e';rw[h.box]at h2;simp only[aat,aa8]at h2;exact absurd h2.2.1 (by decide))];exact h.box
 have far: ∀s∈l,iy s.1 ic:=by
  intro s hs;unfold iy;cases hu:s.1.ownBlock with
  |none=>exact aal rfl
  |some k=>
   refine aab ?_;intro e';rcases hat k e'.symm with h1|h1;·exact abe
   ·have:=(Array.getElem?_eq_some_iff.1 (aA (h.bZ.aR s hs) hu).2.choose_spec).1;omega
 refine⟨⟨?_,?_,?_,far,h.off,h.from_⟩,hsb⟩
 ·refine h.bZ.congr fun b cs t ht hk hh=> ?_;have h1:W1.heap[b]?=some (.cells cs t) :=by
   rw[hb.block b (Array.getElem?_eq_some_iff.1 hh).1 (fun e'=>by
    rcases hk with hk| ⟨s,hs,hk⟩;·obtain⟨_,c1,h1⟩ :=aA h.bZ.row hk;obtain⟨_,c2,h2⟩ :=aA h.aR e';rw[h1]at h2;exact Po
    ·rcases h.apart s hs with h2|h2;·rw[hk]at h2;cases h2
     ·exact h2 (hk.trans e'.symm))];exact hh
  rw[ay W1 sb 1 _ b (by
   rintro rfl;rcases hk with hk| ⟨s,hs,hk⟩;·exact h.off hk
   ·obtain⟨_,c1,h3⟩ :=aA (h.bZ.aR s hs) hk;rw[h.box]at h3;simp only[aat,aa8]at h3;exact absurd h3.2.1 (by decide))];exact h1
 ·have:=aL hsb 1 ic;simpa using this
 ·rw[aa',abz,AZ];refine aG ho (fun b hk=>ay W1 sb 1 _ b ?_);rintro rfl;obtain⟨_,c1,h3⟩ :=aA ho hk;rw[hsb]at h3;exact aa0
theorem mI.push {W W1:aah} {base:Nat} {v v':aaa} {l:List dK} {sb:Nat} {va:aaa} {f:Bool} {rs:List (Int×Int)} {e:Int}(h:mI W base v l sb va f rs e)(hb:But (fun b=>v.ownBlock=some b) W W1)(ho:W1.ownsRow base 42 3 v' (l.length+1) (dS l++ [.bool f,va,.int .i64 e])) :bq W1 base v' (l++ [(va,f,rs,e)]) :=by
 have key: ∀(u:aaa)(n:Nat)(xs:List aaa),W.ownsRow base 44 2 u n xs→W1.ownsRow base 44 2 u n xs:=by intro u n xs hu;refine aG hu (fun b hk=>hb.block b (Array.getElem?_eq_some_iff.1 (aA hu hk).2.choose_spec).1 (fun e'=> ?_));obtain⟨_,c1,h1⟩ :=aA hu hk;obtain⟨_,c2,h2⟩ :=aA h.bZ.row e';rw[h1]at h2;exact Po
 refine⟨?_,fun s hs=> ?_,?_⟩;·rw[aa',abz,BD];exact ho
 ·rcases List.mem_append.1 hs with h1|h1;·exact key _ _ _ (h.bZ.aR s h1)
  ·rw[List.mem_singleton.1 h1];exact key _ _ _ h.aR
 ·rw[List.pairwise_append];refine⟨h.bZ.apart,by simp,fun s hs t ht=> ?_⟩;rw[List.mem_singleton.1 ht];exact h.apart s hs
theorem nC {W:aah} {ops:Array Oper} {rest:List Oper} {o:Oper} {a:Act} {Q:Exit→Act→aah→Prop}(hgd:o.guard=none)(s x:Operand)(t e:aaF)(ho:o.op= .call {callee:= .builtin .append,args:=#[s,x],argTypes:=#[t,t]})(i:TypeInfo)(z:aaa)(size bytes:Nat)(ht:Tryd.prog.underlying t=some (.slice e))(hi:Tryd.prog.info? e=some i)(hz:i.zero=some z)(hsize:i.size=size)(hby:i.bytes=bytes)(hzs:z.cells.size=size)(hsz:0<size)(base:Nat)(v:aaa)(n:Nat)(xs:List aaa)(hs:a.eval s=v)(hown:W.ownsRow base e size v n xs)(ys:Array aaa)(hys:ys.size=size)(hy: ∀y∈ys.toList,y.oneCell'=true)(hx:a.eval x= .slice (some ⟨W.heap.size,0,none⟩) 1 1)(hb:(n+1)*bytes≤140737488355328)(KA:0<bytes)(hbase:base≤W.heap.size)(h: ∀v' w',w'.ownsRow base e size v' (n+1) (xs++ys.toList)→But (fun b=>v.ownBlock=some b) W w'→(∀b,v'.ownBlock=some b→v.ownBlock=some b∨W.heap.size≤b)→v'≠ .slice none 0 0→wpList Tryd.prog ops Q rest (a.put o.dst v') w') :wpList Tryd.prog ops Q (o::rest) a (W.alloc (.cells ys e)) :=by
 have hn:n+1≤140737488355328:=abt (Nat.le_mul_of_pos_right (n+1) KA) hb;refine wpList_append_own_at _ hgd s x t ho base e i z size bytes ht hi hz hsize hby hzs hsz v n xs hs (hown.alloc _) ⟨W.heap.size,0,none⟩ 1 1 ys.toList hx (by simp[hys]) ?_ hy (by unfold maxLen;omega) hb (by simp;omega) ?_;·exact abB
 ·exact afF
section
variable {X:Type} [DecidableEq X]
theorem O9 {T:Sys X} {o r:List X} {y:X}(h:y∈o∨T.dead y=true) :T.num (o++r) y=T.num o y:=by
 unfold Sys.num;by_cases hd:T.dead y=true;·rw[if_pos hd,if_pos hd]
 ·rw[if_neg hd,if_neg hd,vL (h.resolve_right hd)]
def dW(T:Sys X)(o:List X)(y:X) :List X:=if T.dead y=true then o else meet o y
theorem I7(T:Sys X)(o:List X)(y:X) :y∈dW T o y∨T.dead y=true:=by
 unfold dW;by_cases hd:T.dead y=true;·exact aab hd
 ·rw[if_neg hd];exact aal (jQ.2 (aab rfl))
theorem Cc(T:Sys X)(o:List X)(y:X) : ∃r,dW T o y=o++r:=by
 unfold dW;split;·exact⟨[],by simp⟩
 ·exact ql o y
theorem Md(T:Sys X)(l:List X) : ∀(o:List X),meets o (l.filter fun y=> !T.dead y)=l.foldl (dW T) o:=by
 induction l with
 |nil=>intro o;rfl
 |cons y l ih=>
  intro o;rw[aaU,←ih];unfold dW;cases hd:T.dead y with
  |true=>simp[hd]
  |false=>simp[hd,meets]
def jq(T:Sys X)(m:Nat)(x:X)(k:Nat) :List Nat:=(aaw k).filter fun a=>decide (T.aZ x a≠T.aZ x m)
theorem sV(T:Sys X)(m:Nat)(x:X)(k:Nat) :jq T m x (k+1)=if T.aZ x k=T.aZ x m then jq T m x k else jq T m x k++ [k] :=by unfold jq;rw[aa9,aaV];by_cases h:T.aZ x k=T.aZ x m<;>simp[h]
def oH(T:Sys X)(m:Nat)(x:X)(o:List X)(k:Nat) :List X:=((jq T m x k).map (T.aZ x)).foldl (dW T) o
theorem uX(T:Sys X)(m:Nat)(x:X)(o:List X)(k:Nat) :oH T m x o (k+1)=if T.aZ x k=T.aZ x m then oH T m x o k else dW T (oH T m x o k) (T.aZ x k) :=by
 unfold oH;rw[sV];split;·rfl
 ·rw[aax,abC];rfl
theorem TB(T:Sys X)(m:Nat)(x:X)(o:List X) :dW T (oH T m x o m) (T.aZ x m)=meets o (T.nexts m x) :=by unfold Sys.nexts;rw[Md,abC];rfl
def bJ(T:Sys X)(m:Nat)(ls:List Int)(o:List X)(x:X)(k:Nat) :List (Int×Int) :=(jq T m x k).map fun a=>(ls.getD a 0,T.num o (T.aZ x a))
theorem tJ(T:Sys X)(m:Nat)(x:X)(o:List X) : ∀(k:Nat),∀a∈jq T m x k,T.aZ x a∈oH T m x o k∨T.dead (T.aZ x a)=true
 |0,a,ha=>by simp[jq]at ha
 |k+1,a,ha=>by
  rw[sV]at ha;rw[uX];split at ha;·rename_i h;rw[if_pos h];exact tJ T m x o k a ha
  ·rename_i h;rw[if_neg h];obtain⟨r,hr⟩ :=Cc T (oH T m x o k) (T.aZ x k);rcases List.mem_append.1 ha with h1|h1
   ·rcases tJ T m x o k a h1 with h2|h2;·exact aal (by rw[hr];exact ab' _ h2)
    ·exact aab h2
   ·rw[List.mem_singleton.1 h1];exact I7 T _ _
theorem zT {T:Sys X} {m:Nat} {ls:List Int} {o r:List X} {x:X} {k:Nat}(h: ∀a∈jq T m x k,T.aZ x a∈o∨T.dead (T.aZ x a)=true) :bJ T m ls (o++r) x k=bJ T m ls o x k:=by unfold bJ;exact aaT fun a ha=>by rw[O9 (h a ha)]
theorem wG {T:Sys X} {m:Nat} {ls:List Int} {o:List X} {x:X} :T.state m ls o x=(T.fin x,bJ T m ls o x m,T.num o (T.aZ x m)) :=rfl
theorem Sq {T:Sys X} {m:Nat} {ls:List Int} {o r:List X} {x:X}(h: ∀a,a≤m→T.aZ x a∈o∨T.dead (T.aZ x a)=true) :T.state m ls (o++r) x=T.state m ls o x:=by rw[wG,wG,zT (fun a ha=>h a (by have:=List.mem_range.1 (List.mem_filter.1 ha).1;omega)),O9 (h m (aaR m))]
end
abbrev jE:=Bool×List (Nat×Nat)
def mean(G:List jE)(a:Int) :jE:=if a= -1 then(false,[])else if a= -2 then(true,[])else G.getD a.toNat (false,[])
def jR(G:List jE)(a:Int) :Prop:=a= -1∨a= -2∨(0≤a∧a<G.length)
structure jB(Tr:List (Int×Nat×Nat))(G:List jE) :Prop where
 len:Tr.length=G.length
 told: ∀(i:Nat)(t:Int×Nat×Nat),Tr[i]?=some t→jR G t.1∧G[i]?=some ((mean G t.1).1,(mean G t.1).2++ [t.2])
 nodup:G.Nodup
theorem jB.nil:jB [] [] :=⟨rfl,fun i t h=>by simp at h,by simp⟩
theorem jB.aco {Tr:List (Int×Nat×Nat)} {G:List jE}(h:jB Tr G) {i:Nat}(hi:i<G.length) : ∃μ,G[i]?=some μ∧μ.2≠ [] :=by have ht:=aas (show i<Tr.length by rw[h.len];exact hi);obtain⟨_,h2⟩ :=h.told i _ ht;exact⟨_,h2,by simp⟩
theorem jB.ve {Tr:List (Int×Nat×Nat)} {G:List jE}(h:jB Tr G) {i:Nat}(hi:i<G.length) :G[i]?=some (mean G (i:Int)) :=by unfold mean;rw[if_neg (by omega),if_neg (by omega),show((i:Int)).toNat=i by omega,aap,aas hi];rfl
theorem jB.inj {Tr:List (Int×Nat×Nat)} {G:List jE}(h:jB Tr G) {a b:Int}(ha:jR G a)(hb:jR G b)(e:mean G a=mean G b) :a=b:=by
 have key: ∀i:Nat,i<G.length→(mean G (i:Int)).2≠ [] :=by intro i hi;obtain⟨μ,h1,h2⟩ :=h.aco hi;rw[h.ve hi]at h1;rw[aaK h1];exact h2
 have m1:mean G (-1)=(false,[]) :=rfl;have m2:mean G (-2)=(true,[]) :=rfl;rcases ha with rfl|rfl| ⟨a0,a1⟩<;>rcases hb with rfl|rfl| ⟨b0,b1⟩;·rfl
 ·rw[m1,m2]at e;simp at e
 ·obtain⟨j,rfl⟩ : ∃j:Nat,b=(j:Int) :=⟨b.toNat,by omega⟩;exact absurd (by rw[←e,m1]) (key j (by omega))
 ·rw[m1,m2]at e;simp at e
 ·rfl
 ·obtain⟨j,rfl⟩ : ∃j:Nat,b=(j:Int) :=⟨b.toNat,by omega⟩;exact absurd (by rw[←e,m2]) (key j (by omega))
 ·obtain⟨i,rfl⟩ : ∃j:Nat,a=(j:Int) :=⟨a.toNat,by omega⟩;exact absurd (by rw[e,m1]) (key i (by omega))
 ·obtain⟨i,rfl⟩ : ∃j:Nat,a=(j:Int) :=⟨a.toNat,by omega⟩;exact absurd (by rw[e,m2]) (key i (by omega))
 ·obtain⟨i,rfl⟩ : ∃j:Nat,a=(j:Int) :=⟨a.toNat,by omega⟩;obtain⟨j,rfl⟩ : ∃j:Nat,b=(j:Int) :=⟨b.toNat,by omega⟩;have h1:=h.ve (i:=i) (by omega);have h2:=h.ve (i:=j) (by omega);rw[e,←h2]at h1;obtain⟨p1,p2⟩ :=List.getElem?_eq_some_iff.1 (h.ve (i:=i) (by omega));obtain⟨p3,p4⟩ :=List.getElem?_eq_some_iff.1 (h.ve (i:=j) (by omega));have:=(acD (h₀:=p1) (h₁:=p3) h.nodup).1 (by rw[p2,p4,e]);omega
theorem Eb {G H:List jE} {a:Int}(h:jR G a) :mean (G++H) a=mean G a:=by
 unfold mean;rcases h with rfl|rfl| ⟨h1,h2⟩;·rfl
 ·rfl
 ·rw[if_neg (by omega),if_neg (by omega),if_neg (by omega),if_neg (by omega),aap,aap,aaA (by omega)]
theorem jR.app {G H:List jE} {a:Int}(h:jR G a) :jR (G++H) a:=by
 rcases h with h|h| ⟨h1,h2⟩;·exact aal h
 ·exact aab (aal h)
 ·exact aab (aab ⟨h1,by simp;omega⟩)
theorem jB.found {Tr:List (Int×Nat×Nat)} {G:List jE}(h:jB Tr G) {t:Int×Nat×Nat} {i:Nat}(ht:Tr[i]?=some t) :jR G (i:Int)∧mean G (i:Int)=((mean G t.1).1,(mean G t.1).2++ [t.2]) :=by
 have hi:i<G.length:=by rw[←h.len];exact(List.getElem?_eq_some_iff.1 ht).1
 refine⟨aab (aab ⟨by omega,by omega⟩),?_⟩;have h1:=h.ve hi;rw[(h.told i t ht).2]at h1;exact(aaK h1).symm
theorem jB.push {Tr:List (Int×Nat×Nat)} {G:List jE}(h:jB Tr G) {t:Int×Nat×Nat}(ha:jR G t.1)(hn:t∉Tr) :jB (Tr++ [t]) (G++ [((mean G t.1).1,(mean G t.1).2++ [t.2])]) :=by
 refine⟨by simp[h.len],?_,?_⟩
 ·intro i u hu;by_cases hi:i<Tr.length;·rw[aaA hi]at hu;obtain⟨h1,h2⟩ :=h.told i u hu;refine⟨h1.app,?_⟩;rw[aaA (by rw[←h.len];exact hi),Eb h1,h2]
  ·have hi':i=Tr.length:=by have:=(List.getElem?_eq_some_iff.1 hu).1;simp at this;omega
   subst hi';have e:u=t:=by simpa using hu.symm
   subst e;refine⟨ha.app,?_⟩;rw[Eb ha,h.len];simp
 ·rw[abI];refine⟨h.nodup,by simp,?_⟩;intro μ hμ ν hν e;have e2:ν=((mean G t.1).1,(mean G t.1).2++ [t.2]) :=by simpa using hν
  rw[e2]at e;obtain⟨i,hi⟩ :=List.mem_iff_getElem?.1 hμ;have hil:i<Tr.length:=by rw[h.len];exact(List.getElem?_eq_some_iff.1 hi).1
  have hu:=aas hil;obtain⟨h1,h2⟩ :=h.told i _ hu;rw[h2,aat]at hi;rw[←hi]at e;obtain⟨e3,e4⟩ :=Prod.mk.inj e;have e5:=List.append_inj' e4 rfl;have e6:Tr[i].1=t.1:=h.inj h1 ha (Prod.ext e3 e5.1);have e7:Tr[i].2=t.2:=by simpa using e5.2
  exact hn (by rw[←Prod.ext e6 e7];exact acA hil)
theorem KN {Tr:List (Int×Nat×Nat)} {G:List jE}(h:jB Tr G)(μ:jE) :jR (G++ [μ]) (Tr.length:Int)∧mean (G++ [μ]) (Tr.length:Int)=μ:=by refine⟨aab (aab ⟨by omega,by simp[h.len];omega⟩),?_⟩;unfold mean;rw[if_neg (by omega),if_neg (by omega),show((Tr.length:Int)).toNat=Tr.length by omega,h.len,aap];simp
section
variable {X:Type} [DecidableEq X]
def bz(M:Nat→X)(ms:List Nat) :List X:=meets [] (ms.map M)
def groups(M:Nat→X)(ms:List Nat) :List (List Nat) :=(bz M ms).map fun μ=>ms.filter fun q=>decide (M q=μ)
theorem wH(M:Nat→X)(ms:List Nat)(q:Nat) :bz M (ms++ [q])=meet (bz M ms) (M q) :=by unfold bz;rw[aax,abx,List.map_nil,zQ]
theorem fH {M:Nat→X} {ms:List Nat} {μ:X} :μ∈bz M ms↔∃q∈ms,M q=μ:=by unfold bz;rw[jC];simp
theorem p8(M:Nat→X)(ms:List Nat) :(bz M ms).Nodup:=iW (by simp)
theorem j3(M:Nat→X)(ms:List Nat) :(groups M ms).length=(bz M ms).length:=by simp[groups]
theorem Pk {M:Nat→X} {ms:List Nat} {q:Nat} {j:Nat}(h:(bz M ms)[j]?=some (M q)) :groups M (ms++ [q])=(groups M ms).set j (((groups M ms).getD j [])++ [q]) :=by
 have hm:M q∈bz M ms:=aav h;have hk:bz M (ms++ [q])=bz M ms:=by rw[wH];unfold meet;rw[if_pos hm]
 have hjl:=(List.getElem?_eq_some_iff.1 h).1;refine List.ext_getElem? fun i=> ?_;unfold groups;rw[hk,acE,aaL,List.length_map];cases hx:(bz M ms)[i]? with
 |none=>
  have: ¬j=i:=by rintro rfl;rw[h]at hx;cases hx
  simp[this,hx]
 |some μ=>
  by_cases e:j=i;·subst e;rw[h]at hx;cases hx;have hj2:=(List.getElem?_eq_some_iff.1 h).2;simp[hjl,aaV,hj2]
  ·have:M q≠μ:=by intro e2;obtain⟨p1,p2⟩ :=List.getElem?_eq_some_iff.1 h;obtain⟨p3,p4⟩ :=List.getElem?_eq_some_iff.1 hx;exact e ((acD (h₀:=p1) (h₁:=p3) (p8 M ms)).1 (by rw[p2,p4,e2]))
   simp[e,hx,aaV,this]
theorem Gn {M:Nat→X} {ms:List Nat} {q:Nat}(h:M q∉bz M ms) :groups M (ms++ [q])=groups M ms++ [[q]] :=by
 have hk:bz M (ms++ [q])=bz M ms++ [M q] :=by rw[wH];unfold meet;rw[if_neg h]
 unfold groups;rw[hk,aax];congr 1;·refine aaT fun μ hμ=> ?_;have:M q≠μ:=fun e=>h (e▸hμ);simp[aaV,this]
 ·have:ms.filter (fun p=>decide (M p=M q))= [] :=by rw[List.filter_eq_nil_iff];intro p hp;have:M p≠M q:=fun e=>h (fH.2 ⟨p,hp,e⟩);simpa using this
  simp[aaV,this]
theorem Q7(M:Nat→X)(q:Nat) :groups M [q]= [[q]] :=by have:=Gn (M:=M) (ms:=[]) (q:=q) (by simp[bz,meets]);simpa[groups,bz,meets]using this
theorem lJ {M:Nat→X} {ms:List Nat} {j:Nat} {g:List Nat}(h:(groups M ms)[j]?=some g) :g≠ []∧(∀q,q∈g↔q∈ms∧ix (bz M ms) (M q)=j)∧(ms.Nodup→g.Nodup) :=by
 unfold groups at h;rw[aaL]at h;cases hx:(bz M ms)[j]? with
 |none=>rw[hx]at h;cases h
 |some μ=>
  rw[hx]at h;simp only[abp,aat]at h;subst h;refine⟨?_,?_,fun hn=>hn.filter _⟩;·obtain⟨q,hq,he⟩ :=fH.1 (aav hx);intro hc;have:q∈ms.filter (fun q=>decide (M q=μ)) :=List.mem_filter.2 ⟨hq,by simpa using he⟩;rw[hc]at this;simp at this
  ·intro q;rw[List.mem_filter];refine and_congr_right fun hq=> ?_;have hm:M q∈bz M ms:=fH.2 ⟨q,hq,rfl⟩;simp only[decide_eq_true_iff];constructor;·rintro rfl;exact uP (p8 M ms) hx
   ·intro e;have:=lK hm;rw[e,hx]at this;exact(aaK this).symm
end
def kindOf(A:bK)(S:Nat)(κ:Nat→Nat)(q:Nat) :jE:=(A.fin q,runs ((aaw S).map fun a=>κ (A.nx q a)))
theorem Ij {A:bK} {S:Nat} {κ:Nat→Nat} {q r:Nat} :kindOf A S κ q=kindOf A S κ r↔A.fin q=A.fin r∧∀a,a<S→κ (A.nx q a)=κ (A.nx r a) :=by unfold kindOf;rw[Prod.mk.injEq];refine and_congr_right fun _=>⟨fun h a ha=> ?_,fun h=>by rw[aaT fun a ha=>h a (List.mem_range.1 ha)]⟩;have h1:=XA (by simp) h;have h2:=congrArg (fun l=>l[a]?) h1;simpa[ha]using h2
structure fQ(A:bK)(S n:Nat)(κ:Nat→Nat)(parts:List (List Nat)) :Prop where
 coarse:kY A S n κ
 lt: ∀q,q<n→κ q<parts.length
 told: ∀(c:Nat)(ms:List Nat),parts[c]?=some ms→ms≠ []∧ms.Nodup∧∀q,q∈ms↔q<n∧κ q=c
theorem fQ.onto {A:bK} {S n:Nat} {κ:Nat→Nat} {parts:List (List Nat)}(h:fQ A S n κ parts) : ∀y,y<parts.length→∃q,q<n∧κ q=y:=by intro y hy;obtain⟨h1,_,h2⟩ :=h.told y _ (aas hy);obtain⟨q,hq⟩ :=acI _ h1;exact⟨q,(h2 q).1 hq⟩
def splitK(M:Nat→jE)(κ:Nat→Nat)(ms:List Nat)(c L j q:Nat) :Nat:=if κ q=c∧0<ix (bz M ms) (M q)∧ix (bz M ms) (M q)≤j then L+ix (bz M ms) (M q)-1 else κ q
def eG(parts:List (List Nat))(gs:List (List Nat))(c j:Nat) :List (List Nat) :=parts.set c (gs.getD 0 [])++(gs.drop 1).take j
theorem MZ(M:Nat→jE)(κ:Nat→Nat)(ms:List Nat)(c L q:Nat) :splitK M κ ms c L 0 q=κ q:=by unfold splitK;rw[if_neg (by omega)]
theorem fQ.split {A:bK} {S n:Nat} {κ:Nat→Nat} {parts:List (List Nat)}(hs:Shut A S n)(h:fQ A S n κ parts) {c:Nat} {ms:List Nat}(hc:parts[c]?=some ms) :fQ A S n (splitK (kindOf A S κ) κ ms c parts.length (groups (kindOf A S κ) ms).length) (eG parts (groups (kindOf A S κ) ms) c (groups (kindOf A S κ) ms).length) :=by
 obtain⟨m1,m2,m3⟩ :=h.told c ms hc;have hcl:=(List.getElem?_eq_some_iff.1 hc).1;have hg:=j3 (kindOf A S κ) ms;have hpos:0<(groups (kindOf A S κ) ms).length:=by obtain⟨q,hq⟩ :=acI _ m1;have:kindOf A S κ q∈bz (kindOf A S κ) ms:=fH.2 ⟨q,hq,rfl⟩;rw[hg];exact List.length_pos_of_mem this
 have ixl: ∀q,q∈ms→ix (bz (kindOf A S κ) ms) (kindOf A S κ q)<(groups (kindOf A S κ) ms).length:=fun q hq=>by rw[hg];exact lM (fH.2 ⟨q,hq,rfl⟩)
 have hlen:(eG parts (groups (kindOf A S κ) ms) c (groups (kindOf A S κ) ms).length).length=parts.length+(groups (kindOf A S κ) ms).length-1:=by simp[eG];omega
 have val: ∀q,q<n→κ q=c→splitK (kindOf A S κ) κ ms c parts.length (groups (kindOf A S κ) ms).length q=if 0<ix (bz (kindOf A S κ) ms) (kindOf A S κ q)then parts.length+ix (bz (kindOf A S κ) ms) (kindOf A S κ q)-1 else c:=by
  intro q hq e;have h1:=ixl q ((m3 q).2 ⟨hq,e⟩);unfold splitK;by_cases h2:0<ix (bz (kindOf A S κ) ms) (kindOf A S κ q);·rw[if_pos ⟨e,h2,by omega⟩,if_pos h2]
  ·rw[if_neg (fun hh=>h2 hh.2.1),if_neg h2,e]
 have val': ∀q,κ q≠c→splitK (kindOf A S κ) κ ms c parts.length (groups (kindOf A S κ) ms).length q=κ q:=by intro q e;unfold splitK;rw[if_neg (fun hh=>e hh.1)]
 refine⟨?_,?_,?_⟩;·intro q r hq hr e;have e1:=h.coarse q r hq hr e;have e2:kindOf A S κ q=kindOf A S κ r:=Ij.2 (h.coarse.step hs hq hr e);unfold splitK;rw[e1,e2]
 ·intro q hq;rw[hlen];by_cases e:κ q=c;·rw[val q hq e];have:=ixl q ((m3 q).2 ⟨hq,e⟩);split<;>omega
  ·rw[val' q e];have:=h.lt q hq;omega
 ·intro c' ms' h';unfold eG at h';by_cases hl:c'<parts.length
  ·rw[aaA (by simpa using hl),acE]at h';by_cases e:c=c'
   ·subst e;rw[if_pos rfl,if_pos hcl,aat]at h';have h0:(groups (kindOf A S κ) ms)[0]?=some ms':=by rw[←h',aas hpos,aap,aas hpos];rfl
    obtain⟨g1,g2,g3⟩ :=lJ h0;refine⟨g1,g3 m2,fun q=> ?_⟩;rw[g2 q,m3 q];constructor;·rintro⟨⟨h2,h3⟩,h4⟩;refine⟨h2,?_⟩;rw[val q h2 h3,h4,if_neg (by omega)]
    ·rintro⟨h2,h3⟩;by_cases e:κ q=c;·rw[val q h2 e]at h3;refine⟨⟨h2,e⟩,?_⟩;split at h3<;>omega
     ·rw[val' q e]at h3;exact absurd h3 e
   ·rw[if_neg e]at h';obtain⟨g1,g2,g3⟩ :=h.told c' ms' h';refine⟨g1,g2,fun q=> ?_⟩;rw[g3 q];refine and_congr_right fun hq=> ?_;by_cases e2:κ q=c
    ·rw[val q hq e2];constructor;·intro e3;exact absurd (e2.symm.trans e3) e
     ·intro e3;split at e3<;>omega
    ·rw[val' q e2]
  ·rw[List.getElem?_append_right (by simp;omega),List.length_set,List.getElem?_take]at h';split at h'
   ·rw[List.getElem?_drop]at h';obtain⟨g1,g2,g3⟩ :=lJ h';refine⟨g1,g3 m2,fun q=> ?_⟩;rw[g2 q,m3 q];constructor;·rintro⟨⟨h2,h3⟩,h4⟩;refine⟨h2,?_⟩;rw[val q h2 h3,h4,if_pos (by omega)];omega
    ·rintro⟨h2,h3⟩;by_cases e:κ q=c;·rw[val q h2 e]at h3;refine⟨⟨h2,e⟩,?_⟩;split at h3<;>omega
     ·rw[val' q e]at h3;have:=h.lt q h2;omega
   ·cases h'
theorem fQ.stable {A:bK} {S n:Nat} {κ:Nat→Nat} {parts:List (List Nat)}(h:fQ A S n κ parts)(hu: ∀(c:Nat)(ms:List Nat),parts[c]?=some ms→(groups (kindOf A S κ) ms).length=1) :Stable A S n κ:=by intro q r hq hr e;have mO:=h.lt q hq;have hc:=aas mO;obtain⟨m1,m2,m3⟩ :=h.told _ _ hc;have h1:=hu _ _ hc;rw[j3]at h1;have k1:kindOf A S κ q∈bz (kindOf A S κ) parts[κ q] :=fH.2 ⟨q,(m3 q).2 ⟨hq,rfl⟩,rfl⟩;have k2:kindOf A S κ r∈bz (kindOf A S κ) parts[κ q] :=fH.2 ⟨r,(m3 r).2 ⟨hr,e.symm⟩,rfl⟩;obtain⟨μ,hμ⟩ :=List.length_eq_one_iff.1 h1;rw[hμ,List.mem_singleton]at k1 k2;exact Ij.1 (k1.trans k2.symm)
theorem Ra(A:bK)(S n:Nat)(h0:0<n) :fQ A S n (fun _=>0) [aaw n] :=by
 refine⟨fun q r _ _ _=>rfl,fun q _=>by simp,fun c ms h=> ?_⟩;match c,h with
 |0,h=>
  have e:ms=aaw n:=by simpa using h.symm
  subst e;refine⟨by intro e;have:=congrArg List.length e;simp at this;omega,List.nodup_range,fun q=>by simp⟩
 |c+1,h=>simp at h
def fU(ls:List Int)(a:Nat) :Int:=if a<ls.length then ls.getD a 0 else-9
theorem bK.Ai {A B:bK} {S n:Nat}(hs:Shut A S n)(hf: ∀q,q<n→A.fin q=B.fin q)(hx: ∀q a,q<n→a<S→A.nx q a=B.nx q a) {q:Nat}(hq:q<n) :A.aW S q=B.aW S q:=by
 have h: ∀(w:List Nat)(q:Nat),q<n→(∀a∈w,a<S)→A.acc q w=B.acc q w:=by
  intro w;induction w with
  |nil=>intro q hq _;exact hf q hq
  |cons a w ih=>intro q hq hw;have ha:=hw a (by simp);show A.acc (A.nx q a) w=B.acc (B.nx q a) w;rw[←hx q a hq ha];exact ih _ (hs q a hq ha) (fun b hb=>hw b (by simp[hb]))
 funext w;unfold bK.aW;by_cases hw: ∀a∈w,a<S;·rw[h w q hq hw]
 ·exact abo
theorem ajF {X:Type} [DecidableEq X] {y:X} : ∀ {l:List X} {n:Nat},l[n]?=some y→ix l y≤n:=by
 unfold ix;intro l;induction l with
 |nil=>intro n h;simp at h
 |cons a l ih=>
  intro n h;rw[List.idxOf_cons];by_cases ea:a==y;·simp[ea]
  ·match n,h with
   |0,h=>simp at h;simp[h]at ea
   |n+1,h=>have:=ih (n:=n) (by simpa using h);simp[ea];omega
section
variable {X:Type} [DecidableEq X]
theorem QS {d:X} {Z:List X} {y:X} {t:Nat}(ht:t<Z.length)(hb: ∀q,q<t→Z.getD q d≠y)(he:Z.getD t d=y) :meet Z y=Z∧ix (meet Z y) y=t:=by
 have hz:Z[t]?=some y:=by rw[aas ht];rw[aap,aas ht]at he;simpa using he
 have hm:y∈Z:=aav hz;have e:meet Z y=Z:=by simp[meet,hm]
 refine⟨e,?_⟩;rw[e];have h1:=lK hm;rcases Nat.lt_trichotomy (ix Z y) t with h|h|h;·exact absurd (by rw[aap,h1];rfl) (hb _ h)
 ·exact h
 ·have:=ajF hz;omega
theorem Yz {d:X} {Z:List X} {y:X}(hb: ∀q,q<Z.length→Z.getD q d≠y) :meet Z y=Z++ [y]∧ix (meet Z y) y=Z.length:=by
 have hm:y∉Z:=by intro h;obtain⟨i,h1,h2⟩ :=List.getElem_of_mem h;exact hb i h1 (by rw[aap,aas h1];simpa using h2)
 have e:meet Z y=Z++ [y] :=by simp[meet,hm]
 exact⟨e,by rw[e];exact jr hm⟩
def toN(K:bN X)(Z:List X)(x:X)(j:Nat) :List Nat:=(aaw j).map fun a=>ix Z (K.step x a)
def aS(K:bN X)(Z:List X)(x:X)(j:Nat) :List X:=meets Z ((aaw j).map (K.step x))
theorem nN(K:bN X)(Z:List X)(x:X)(j:Nat) :aS K Z x (j+1)=meet (aS K Z x j) (K.step x j) :=by unfold aS;rw[aa9,aax,abw,zQ]
theorem wB(K:bN X)(Z:List X)(x:X)(j:Nat) : ∃r,aS K Z x j=Z++r:=xD _ _
theorem qm {K:bN X} {Z:List X} {x:X} {j a:Nat}(h:a<j) :K.step x a∈aS K Z x j:=jC.2 (aab (List.mem_map.2 ⟨a,List.mem_range.2 h,rfl⟩))
theorem vX(K:bN X)(Z:List X)(x:X)(j:Nat) :toN K (aS K Z x (j+1)) x (j+1)=toN K (aS K Z x j) x j++ [ix (aS K Z x (j+1)) (K.step x j)] :=by unfold toN;rw[aa9,aax,abw];congr 1;refine aaT fun a ha=> ?_;obtain⟨r,hr⟩ :=ql (aS K Z x j) (K.step x j);rw[nN,hr];exact vL (qm (List.mem_range.1 ha))
theorem rY(K:bN X)(Z:List X)(x:X)(j:Nat) :(toN K Z x j).length=j:=by simp[toN]
structure jL(K:bN X)(S:Nat)(x0:X)(i:Nat)(Z:List X)(aB:List (List Nat))(ak:List Bool) :Prop where
 bf:eB (K.nexts S) i 0 [x0]=Z
 le:i≤Z.length
 uE:aB.length=i
 mH:ak.length=i
 nx: ∀q,q<i→aB.getD q []=toN K Z (Z.getD q x0) S
 mem: ∀q,q<i→∀a,a<S→K.step (Z.getD q x0) a∈Z
 fin: ∀q,q<i→ak.getD q false=K.fin (Z.getD q x0)
theorem jL.zero(K:bN X)(S:Nat)(x0:X) :jL K S x0 0 [x0] [] [] :=⟨rfl,by simp,rfl,rfl,fun q h=>absurd h (by omega),fun q h=>absurd h (by omega),fun q h=>absurd h (by omega)⟩
theorem jL.nodup {K:bN X} {S:Nat} {x0:X} {i:Nat} {Z:List X} {aB:List (List Nat)} {ak:List Bool}(h:jL K S x0 i Z aB ak) :Z.Nodup:=by rw[←h.bf];exact I4 _ _ _ _ (by simp)
theorem jL.step {K:bN X} {S:Nat} {x0:X} {i:Nat} {Z:List X} {aB:List (List Nat)} {ak:List Bool}(h:jL K S x0 i Z aB ak)(hi:i<Z.length) :jL K S x0 (i+1) (aS K Z (Z.getD i x0) S) (aB++ [toN K (aS K Z (Z.getD i x0) S) (Z.getD i x0) S]) (ak++ [K.fin (Z.getD i x0)]) :=by
 have hx:Z[i]?=some (Z.getD i x0) :=by rw[aap,aas hi];rfl
 obtain⟨r,hr⟩ :=wB K Z (Z.getD i x0) S;have hat: ∀q,q≤i→(aS K Z (Z.getD i x0) S).getD q x0=Z.getD q x0:=by intro q hq;rw[hr,aap,aaA (by omega),←aap]
 refine⟨EC h.bf hx,by rw[hr,aa'];omega,by simp[h.uE],by simp[h.mH],fun q hq=> ?_,fun q hq a ha=> ?_,fun q hq=> ?_⟩
 ·rw[hat q (by omega)];by_cases e:q=i;·rw[e,aap,←h.uE];simp
  ·rw[aap,aaA (by rw[h.uE];omega),←aap,h.nx q (by omega)];unfold toN;refine aaT fun a ha=> ?_;rw[hr];exact(vL (h.mem q (by omega) a (List.mem_range.1 ha))).symm
 ·rw[hat q (by omega)];by_cases e:q=i;·rw[e];exact qm ha
  ·rw[hr];exact ab' _ (h.mem q (by omega) a ha)
 ·rw[hat q (by omega)];by_cases e:q=i;·rw[e,aap,←h.mH];simp
  ·rw[aap,aaA (by rw[h.mH];omega),←aap,h.fin q (by omega)]
theorem jL.done {K:bN X} {S:Nat} {x0:X} {Z:List X} {aB:List (List Nat)} {ak:List Bool}(h:jL K S x0 Z.length Z aB ak)(hp:0<Z.length) :fM (K.nexts S) x0 Z∧(aM ak aB).aW S 0=K.aW S x0∧(∀q,q<ak.length→(aB.getD q []).length=S∧∀a,a<S→(aB.getD q []).getD a 0<ak.length) :=by
 have hb:fM (K.nexts S) x0 Z:=⟨_,h.bf,aaR _⟩;have hto: ∀q a,q<Z.length→a<S→(aB.getD q []).getD a 0=ix Z (K.step (Z.getD q x0) a) :=by intro q a hq ha;rw[h.nx q hq];simp[toN,ha]
 refine⟨hb,?_,fun q hq=> ?_⟩
 ·rw[←K.Uf hb];refine(bK.Ai (n:=Z.length) (K.shut hb) (fun q hq=> ?_) (fun q a hq ha=> ?_) hp).symm;·exact(h.fin q hq).symm
  ·exact(hto q a hq ha).symm
 ·rw[h.mH]at hq⊢;refine⟨by rw[h.nx q hq,rY],fun a ha=> ?_⟩;rw[hto q a hq ha];exact lM (h.mem q hq a ha)
theorem Fp: ∀(n:Nat)(l:List Nat),l.length=n→l≠ []→∃s,(runs l).getLast?=some s∧l.getLast?=some s.2
 |0,l,hl,h=>absurd (List.length_eq_zero_iff.1 hl) h
 |n+1,l,hl,h=>by
  obtain⟨l',v,rfl⟩ : ∃l' v,l=l'++ [v] :=⟨l.dropLast,l.getLast h,(List.dropLast_concat_getLast h).symm⟩;rw[BL];by_cases e:l'.getLast?=some v
  ·have hl':l'≠ [] :=by rintro rfl;simp at e
   obtain⟨s,h1,h2⟩ :=Fp n l' (by simpa using hl) hl';rw[if_pos e,acK];refine⟨s,h1,?_⟩;rw[e]at h2;rw[List.getLast?_append];simpa using h2
  ·rw[if_neg e];exact⟨(l'.length,v),by simp,by simp⟩
theorem Sv {l:List Nat}(h:l≠ []) : ∃s,(runs l).getLast?=some s∧l.getLast?=some s.2:=Fp _ l rfl h
def jK(K:bN X)(Z:List X)(x:X)(j:Nat) :List (Nat×Nat) :=runs (toN K (aS K Z x j) x j)
theorem Es(K:bN X)(Z:List X)(x:X)(j:Nat) :(toN K Z x (j+1)).getLast?=some (ix Z (K.step x j)) :=by unfold toN;rw[aa9,aax,abw];simp
theorem TT(K:bN X)(Z:List X)(x:X)(j:Nat) : ∃s,(jK K Z x (j+1)).getLast?=some s∧(aS K Z x (j+1))[s.2]?=some (K.step x j) :=by
 have hl:toN K (aS K Z x (j+1)) x (j+1)≠ [] :=by intro e;have:=rY K (aS K Z x (j+1)) x (j+1);rw[e]at this;simp at this
 obtain⟨s,h1,h2⟩ :=Sv hl;rw[Es]at h2;refine⟨s,h1,?_⟩;rw[←aaK h2];exact lK (qm (by omega))
theorem Uq {K:bN X} {Z:List X} {x:X} {j:Nat}(h:K.step x (j+1)=K.step x j) :aS K Z x (j+2)=aS K Z x (j+1)∧jK K Z x (j+2)=jK K Z x (j+1) :=by
 have hm:aS K Z x (j+2)=aS K Z x (j+1) :=by
  rw[nN];have:K.step x (j+1)∈aS K Z x (j+1) :=by rw[h];exact qm (by omega)
  unfold meet;rw[if_pos this]
 refine⟨hm,?_⟩;unfold jK;rw[vX,BL,if_pos,acK];rw[Es,hm,h]
theorem Yg {K:bN X} {Z:List X} {x:X} {j:Nat}(hn:Z.Nodup)(h: ∀i,j=i+1→K.step x (i+1)≠K.step x i) :jK K Z x (j+1)=jK K Z x j++ [(j,ix (aS K Z x (j+1)) (K.step x j))] :=by
 unfold jK;rw[vX,BL,rY,if_neg];intro e;cases j with
 |zero=>simp[toN]at e
 |succ i=>
  rw[Es]at e;have e2:=aaK e;have hnd:(aS K Z x (i+2)).Nodup:=iW hn;obtain⟨r,hr⟩ :=ql (aS K Z x (i+1)) (K.step x (i+1));have h1:ix (aS K Z x (i+2)) (K.step x i)=ix (aS K Z x (i+1)) (K.step x i) :=by rw[nN,hr];exact vL (qm (by omega))
  have h2:=lK (qm (K:=K) (Z:=Z) (x:=x) (j:=i+2) (a:=i) (by omega));have h3:=lK (qm (K:=K) (Z:=Z) (x:=x) (j:=i+2) (a:=i+1) (by omega));rw[h1,e2,h3]at h2;exact h i rfl (aaK h2)
theorem kX: ∀(l:List Nat)(last:Option Nat)(k:Nat),(bF last k l).length≤l.length
 | [],_,_=>by simp[bF]
 |v::t,last,k=>by
  unfold bF;split;·have:=kX t last (k+1);simp;omega
  ·have:=kX t (some v) (k+1);simp;omega
theorem Ea(K:bN X)(Z:List X)(x:X)(j:Nat) :(jK K Z x j).length≤j:=by have:=kX (toN K (aS K Z x j) x j) none 0;rw[rY]at this;exact this
end
def bu(D:List aT)(at_:Int)(r:Int) :Int:=if at_<0 then-1 else match D[at_.toNat]? with
 |none=> -1
 |some s=>match s.2.1.find? (fun a=>a.1==r)with
 |some a=>a.2
 |none=>s.2.2
def fK(D:List aT)(at_:Int) :Bool:=if at_<0 then false else match D[at_.toNat]? with
 |none=>false
 |some s=>s.1
def jf(ls:List Int)(r:Int) :Nat:=ls.idxOf r
theorem CX(ls:List Int)(r:Int) :jf ls r≤ls.length:=List.idxOf_le_length
theorem IJ {ls:List Int}(hn:ls.Nodup)(g:Nat→Int)(r:Int) : ∀(ks:List Nat),(∀k∈ks,k<ls.length)→((ks.map fun k=>(ls.getD k 0,g k)).find? fun a=>a.1==r)=if jf ls r∈ks then some (r,g (jf ls r))else none
 | [],_=>by simp
 |k::ks,h=>by
  have hk:=h k (by simp);have ih:=IJ hn g r ks (fun x hx=>h x (by simp[hx]));have hat:ls.getD k 0=ls[k] :=by rw[aap,aas hk];rfl
  by_cases e:ls[k]=r
  ·have hs:jf ls r=k:=by unfold jf;rw[←e];exact hn.idxOf_getElem k hk
   rw[abx,List.find?_cons_of_pos (by show(ls.getD k 0==r)=true;rw[hat,e];simp),hs,if_pos (by simp),hat,e]
  ·have hs:jf ls r≠k:=by
    intro e2;apply e;have h1:jf ls r<ls.length:=by rw[e2];exact hk
    have h2:=List.getElem_idxOf (x:=r) (xs:=ls) h1;have h3:ls.idxOf r=k:=e2;simp only[h3]at h2;exact h2
   rw[abx,List.find?_cons_of_neg (by show¬(ls.getD k 0==r)=true;rw[hat];simpa using e),ih];by_cases hm:jf ls r∈ks;·rw[if_pos hm,if_pos (by simp[hm])]
   ·rw[if_neg hm,if_neg (by simp[hm,hs])]
theorem IZ {m:Nat} {K:jA} {a:Nat}(ha:a≤m)(he:kL K a≠bM) :kL K a∈bS.nexts m K:=by exact Zi
theorem Oy {m:Nat} {ls:List Int} {o:List jA}(hn:ls.Nodup)(hm:ls.length=m) {i:Nat} {K:jA}(hi:o[i]?=some K)(r:Int) :bu (o.map (bS.state m ls o)) (i:Int) r=bS.num o (kL K (jf ls r)) :=by
 unfold bu;rw[if_neg (by omega),Int.toNat_natCast,aaL,hi];show(match((bS.told m K).map fun k=>(ls.getD k 0,bS.num o (bS.aZ K k))).find? (fun a=>a.1==r)with|some a=>a.2|none=>bS.num o (bS.aZ K m))=_;rw[IJ hn (fun k=>bS.num o (bS.aZ K k)) r (bS.told m K) (fun k hk=>by have:=List.mem_range.1 (List.mem_filter.1 hk).1;omega)];by_cases h1:jf ls r∈bS.told m K;·rw[if_pos h1];rfl
 ·rw[if_neg h1];show bS.num o (kL K m)=_;have hle:=CX ls r;rcases Nat.lt_or_eq_of_le hle with h2|h2
  ·have h3:kL K (jf ls r)=kL K m:=by apply Classical.byContradiction;intro hne;exact h1 (List.mem_filter.2 ⟨List.mem_range.2 (by omega),decide_eq_true hne⟩)
   rw[h3]
  ·rw[h2,hm]
theorem fin_at {m:Nat} {ls:List Int} {o:List jA} {i:Nat} {K:jA}(hi:o[i]?=some K) :fK (o.map (bS.state m ls o)) (i:Int)=K [] :=by unfold fK;rw[if_neg (by omega),Int.toNat_natCast,aaL,hi];rfl
theorem Tg {m:Nat} {ls:List Int} {L:jA} {D:List aT}(h:bS.dx m ls L D)(hn:ls.Nodup)(hm:ls.length=m)(rs:List Int) :fK D (rs.foldl (bu D) 0)=L (rs.map (jf ls)) :=by
 obtain⟨o,h1,rfl⟩ :=h;have ae4: ∀K,(K∈o∨K=bM)→K≠bM→∃i:Nat,o[i]?=some K∧bS.num o K=(i:Int) :=by intro K hK hne;have hmem:=hK.resolve_right hne;refine⟨ix o K,lK hmem,?_⟩;unfold Sys.num;rw[if_neg (by simp[bS,hne])]
 have ahO:bS.num o bM= -1:=by unfold Sys.num;rw[if_pos (by simp[bS])]
 have toe: ∀a,kL bM a=bM:=fun a=>rfl;have ND: ∀K,K∈o→∀a,a≤m→(kL K a∈o∨kL K a=bM) :=by
  intro K hK a ha;by_cases he:kL K a=bM;·exact aab he
  ·exact aal (h1.closed K hK _ (IZ ha he))
 have run: ∀(rs:List Int)(K:jA),(K∈o∨K=bM)→fK (o.map (bS.state m ls o)) (rs.foldl (bu (o.map (bS.state m ls o))) (bS.num o K))=K (rs.map (jf ls)) :=by
  intro rs;induction rs with
  |nil=>
   intro K hK;by_cases he:K=bM;·subst he;rw[ahO];rfl
   ·obtain⟨i,hi,mG⟩ :=ae4 K hK he;rw[List.foldl_nil,mG,fin_at hi];rfl
  |cons r rs ih=>
   intro K hK;rw[aaU];have hle:jf ls r≤m:=by rw[←hm];exact CX ls r
   by_cases he:K=bM
   ·subst he;have e1:bu (o.map (bS.state m ls o)) (bS.num o bM) r=bS.num o bM:=by rw[ahO];rfl
    rw[e1,ih bM (aab rfl)];rfl
   ·obtain⟨i,hi,mG⟩ :=ae4 K hK he;rw[mG,Oy hn hm hi,ih _ (ND K (aav hi) _ hle)];rfl
 cases rs with
 |nil=>exact fin_at h1.head
 |cons r rs=>rw[aaU];have e0:=Oy hn hm h1.head r;have e1:bu (o.map (bS.state m ls o)) 0 r=bS.num o (kL L (jf ls r)) :=e0;rw[e1,run rs _ (ND L (aav h1.head) _ (by rw[←hm];exact CX ls r))];rfl
structure uz(X:Type)where
 kt:aaF
 mt:aaF
 bt:aaF
 size:Nat
 enc:X→aaa
 cells:X→Array aaa
 ok:X→Prop
structure uz.Ok {X:Type}(K:uz X) :Prop where
 under:Tryd.prog.underlying K.mt=some (.map K.kt 3)
 keyed:Maps.Keyed Tryd.prog K.kt
 key: ∀x,K.ok x→∃kl,keyOf Tryd.prog K.kt (K.enc x)=some kl
 inj: ∀x y,K.enc x=K.enc y→x=y
section
variable {X:Type} [DecidableEq X] {K:uz X}
def jy(K:uz X)(w:aah)(mb:Nat)(L:List X) :Prop:=∃es clock,w.heap[mb]?=some (.map es clock)∧es.toList.map (fun e=>(e.key,e.val))=L.mapIdx fun(j:Nat)l=>(K.enc l,aa5 .i64 (j:Int))
theorem jy.keep {w w':aah} {mb:Nat} {L:List X}(h:jy K w mb L)(hb:w'.heap[mb]?=w.heap[mb]?) :jy K w' mb L:=by obtain⟨es,clock,h1,h2⟩ :=h;exact⟨es,clock,hb.trans h1,h2⟩
theorem jy.lt {w:aah} {mb:Nat} {L:List X}(h:jy K w mb L) :mb<w.heap.size:=by obtain⟨es,clock,h1,_⟩ :=h;exact(Array.getElem?_eq_some_iff.1 h1).1
theorem Kr(w:aah) :jy K (w.alloc (.map #[] 0)) w.heap.size [] :=⟨#[],0,abl w _,rfl⟩
theorem jy.find(hK:K.Ok) {w:aah} {mb:Nat} {L:List X}(h:jy K w mb L)(hL: ∀l∈L,K.ok l)(l:X)(hl:K.ok l) : ∃es clock,w.heap[mb]?=some (.map es clock)∧es.toList.map (fun e=>(e.key,e.val))=L.mapIdx (fun(j:Nat)l=>(K.enc l,aa5 .i64 (j:Int)))∧((l∉L∧(acT K.kt (K.enc l) es.toList).run Tryd.prog w= .ok none w)∨∃j:Nat,L[j]?=some l∧(acT K.kt (K.enc l) es.toList).run Tryd.prog w= .ok (some (j,.int .i64 (j:Int))) w) :=by
 obtain⟨es,clock,h1,h2⟩ :=h;refine⟨es,clock,h1,h2,?_⟩;obtain⟨kl,hkl⟩ :=hK.key l hl;have at_: ∀(j:Nat)(e:MapEntry),es.toList[j]?=some e→∃l',L[j]?=some l'∧e.key=K.enc l'∧e.val= .int .i64 (j:Int) :=by
  intro j e he;have h3:(es.toList.map (fun e=>(e.key,e.val)))[j]?=some (e.key,e.val) :=by rw[aaL,he];rfl
  rw[h2,acH]at h3;cases hx:L[j]? with
  |none=>rw[hx]at h3;cases h3
  |some l'=>rw[hx]at h3;simp only[abp,aat,Prod.mk.injEq]at h3;exact⟨l',rfl,h3.1.symm,h3.2.symm⟩
 have hkeys: ∀e∈es.toList,∃q,keyOf Tryd.prog K.kt e.key=some q:=by intro e he;obtain⟨j,hj⟩ :=List.mem_iff_getElem?.1 he;obtain⟨l',h4,h5,_⟩ :=at_ j e hj;rw[h5];exact hK.key l' (hL l' (aav h4))
 rcases hK.keyed.find w hkl es.toList hkeys with⟨h3,h4⟩| ⟨j,e,h3,h4,h5⟩
 ·refine aal ⟨?_,h3⟩;intro hm;obtain⟨j,hj⟩ :=List.mem_iff_getElem?.1 hm;have h6:(es.toList.map (fun e=>(e.key,e.val)))[j]?=some (K.enc l,.int .i64 (j:Int)) :=by rw[h2,acH,hj];rfl
  rw[aaL]at h6;cases hx:es.toList[j]? with
  |none=>rw[hx]at h6;cases h6
  |some e=>rw[hx]at h6;simp only[abp,aat,Prod.mk.injEq]at h6;exact h4 e (aav hx) h6.1
 ·obtain⟨l',h6,h7,h8⟩ :=at_ j e h4;have:l'=l:=hK.inj _ _ (h7.symm.trans h5);subst this;exact aab ⟨j,h6,by rw[h3,h8]⟩
theorem jy.look(hK:K.Ok) {w:aah} {mb:Nat} {L:List X}(h:jy K w mb L)(hL: ∀l∈L,K.ok l)(l:X)(hl:K.ok l) :(l∉L∧(aau K.mt (.map (some mb)) (K.enc l) true).run Tryd.prog w= .ok (.tuple #[.int .i64 0,.bool false]) w)∨∃j:Nat,L[j]?=some l∧(aau K.mt (.map (some mb)) (K.enc l) true).run Tryd.prog w= .ok (.tuple #[.int .i64 (j:Int),.bool true]) w:=by
 obtain⟨kl,hkl⟩ :=hK.key l hl;obtain⟨es,clock,h1,_,h3⟩ :=h.find hK hL l hl;rcases h3 with⟨h4,h5⟩| ⟨j,h4,h5⟩;·exact aal ⟨h4,by simp[aau,aaY hK.under,abu h1,hK.keyed.check w _ hkl,h5,aa7]⟩
 ·exact aab ⟨j,h4,by simp[aau,aaY hK.under,abu h1,hK.keyed.check w _ hkl,h5,aa7]⟩
theorem look_nil(hK:K.Ok)(w:aah)(l:X)(hl:K.ok l) :(aau K.mt (.map none) (K.enc l) true).run Tryd.prog w= .ok (.tuple #[.int .i64 0,.bool false]) w:=by
 obtain⟨kl,hkl⟩ :=hK.key l hl;rcases hK.keyed.find w hkl [] (by simp)with⟨h3,_⟩| ⟨j,e,_,h4,_⟩;·simp[aau,aaY hK.under,hK.keyed.check w _ hkl,h3,aa7]
 ·simp at h4
theorem jy.put(hK:K.Ok) {w:aah} {mb:Nat} {L:List X}(h:jy K w mb L)(hL: ∀l∈L,K.ok l)(l:X)(hl:K.ok l)(hn:l∉L) : ∃w',(abd K.mt (.map (some mb)) (K.enc l) (.int .i64 (L.length:Int))).run Tryd.prog w= .ok () w'∧jy K w' mb (L++ [l])∧w.grownBy w' (some mb)∧w'.heap.size=w.heap.size:=by
 obtain⟨kl,hkl⟩ :=hK.key l hl;obtain⟨es,clock,h1,h2,h3⟩ :=h.find hK hL l hl;rcases h3 with⟨h4,h5⟩| ⟨j,h4,h5⟩
 ·refine⟨abf w mb (.map (es.push ⟨K.enc l,.int .i64 (L.length:Int),clock⟩) (clock+1)),?_,⟨_,_,ac1 h1 _,?_⟩,⟨rfl,rfl,rfl,by simp[abf],fun i _ hi=>ac2 h1 _ (fun e=>hi (by rw[e]))⟩,by simp[abf]⟩;·simp[abd,aaY hK.under,abu h1,hK.keyed.check w false hkl,h5,MapKept.run_setObj_map _ h1,aa7,abf]
  ·rw[Array.toList_push,aax,h2,List.mapIdx_append];simp
 ·exact absurd (aav h4) hn
def gV(K:uz X)(L:List X) :List aaa:=L.flatMap fun x=>(K.cells x).toList
theorem Vx(L:List X)(x:X) :gV K (L++ [x])=gV K L++(K.cells x).toList:=by simp[gV]
structure bA(K:uz X)(W:aah)(base sb:Nat)(vm vs:aaa)(L:List X) :Prop where
 box:W.heap[sb]?=some (.cells #[vm,vs] K.bt)
 map:(vm= .map none∧L= [])∨∃mb,vm= .map (some mb)∧base≤mb∧jy K W mb L
 row:W.ownsRow base K.kt K.size vs L.length (gV K L)
 nodup:L.Nodup
 oks: ∀x∈L,K.ok x
def bB(sb:Nat)(vm vs:aaa)(b:Nat) :Prop:=b=sb∨vm= .map (some b)∨vs.ownBlock=some b
theorem bA.lt {W:aah} {base sb:Nat} {vm vs:aaa} {L:List X}(h:bA K W base sb vm vs L) :sb<W.heap.size:=(Array.getElem?_eq_some_iff.1 h.box).1
theorem bA.blk {W:aah} {base sb:Nat} {vm vs:aaa} {L:List X}(h:bA K W base sb vm vs L) {b:Nat}(hb:bB sb vm vs b) :b<W.heap.size∧((∃cs,W.heap[b]?=some (.cells cs K.bt))∨(∃es c,W.heap[b]?=some (.map es c))∨∃cs,W.heap[b]?=some (.cells cs K.kt)) :=by
 rcases hb with rfl|rfl|hb;·exact⟨h.lt,aal ⟨_,h.box⟩⟩
 ·rcases h.map with⟨h1,_⟩| ⟨mb,h1,_,h2⟩;·cases h1
  ·cases h1;obtain⟨es,c,h3,_⟩ :=h2;exact⟨(Array.getElem?_eq_some_iff.1 h3).1,aab (aal ⟨es,c,h3⟩)⟩
 ·obtain⟨_,cur,h2⟩ :=aA h.row hb;exact⟨(Array.getElem?_eq_some_iff.1 h2).1,aab (aab ⟨cur,h2⟩)⟩
theorem bA.keep {W W':aah} {base sb:Nat} {vm vs:aaa} {L:List X}(h:bA K W base sb vm vs L)(hb: ∀b,bB sb vm vs b→W'.heap[b]?=W.heap[b]?) :bA K W' base sb vm vs L:=by
 refine⟨(hb sb (aal rfl)).trans h.box,?_,aG h.row (fun b hk=>hb b (aab (aab hk))),h.nodup,h.oks⟩;rcases h.map with h1| ⟨mb,h1,h2,h3⟩;·exact aal h1
 ·exact aab ⟨mb,h1,h2,h3.keep (hb mb (aab (aal h1)))⟩
theorem bA.below {W W':aah} {base sb:Nat} {vm vs:aaa} {L:List X}(h:bA K W base sb vm vs L)(hb:Below W.heap.size W W') :bA K W' base sb vm vs L:=h.keep fun b hk=>hb.block b (h.blk hk).1
theorem bA.but {W W':aah} {base sb:Nat} {vm vs:aaa} {L:List X} {Y:Nat→Prop}(h:bA K W base sb vm vs L)(hb:But Y W W')(hy: ∀b,bB sb vm vs b→¬Y b) :bA K W' base sb vm vs L:=h.keep fun b hk=>hb.block b (h.blk hk).1 (hy b hk)
theorem qz(W:aah)(base:Nat) :bA K (W.alloc (.cells #[.map none,.slice none 0 0] K.bt)) base W.heap.size (.map none) (.slice none 0 0) [] :=⟨abl W _,aal ⟨rfl,rfl⟩,abn _ _ _ _,by simp,by simp⟩
theorem bA.from_ {W:aah} {base sb:Nat} {vm vs:aaa} {L:List X}(h:bA K W base sb vm vs L) {b:Nat}(hb:bB sb vm vs b) :b=sb∨base≤b:=by
 rcases hb with rfl|rfl|hb;·exact aal rfl
 ·rcases h.map with⟨h1,_⟩| ⟨mb,h1,h2,_⟩;·cases h1
  ·cases h1;exact aab h2
 ·exact aab (aA h.row hb).1
def Gd(K:uz X)(W:aah)(base sb:Nat)(vm vs:aaa)(L:List X)(x:X)(e:Ending)(W':aah) :Prop:=e= .returned (.int .i64 (ix (meet L x) x:Nat))∧∃dF vs',bA K W' base sb dF vs' (meet L x)∧But (bB sb vm vs) W W'∧(∀b,vs'.ownBlock=some b→vs.ownBlock=some b∨W.heap.size≤b)∧∀b,dF= .map (some b)→vm= .map (some b)∨W.heap.size≤b
theorem dZ {L:List X} {x:X}(h:x∈L) :meet L x=L:=by unfold meet;rw[if_pos h]
theorem cK {L:List X} {x:X}(h:x∉L) :meet L x=L++ [x] :=by unfold meet;rw[if_neg h]
theorem bA.pushed {W2 W3:aah} {base sb mb:Nat} {vs v':aaa} {L:List X} {x:X}(hne:K.bt≠K.kt)(oP:W2.heap[sb]?=some (.cells #[.map (some mb),vs] K.bt))(hm:jy K W2 mb (L++ [x]))(hmb:base≤mb)(hrow:W2.ownsRow base K.kt K.size vs L.length (gV K L))(gU:But (fun b=>vs.ownBlock=some b) W2 W3)(ho:W3.ownsRow base K.kt K.size v' (L.length+1) (gV K L++(K.cells x).toList))(hn:(L++ [x]).Nodup)(jO: ∀y∈L++ [x],K.ok y) :bA K (W3.setCell ⟨sb,1,none⟩ v') base sb (.map (some mb)) v' (L++ [x])∧W3.heap[sb]?=some (.cells #[.map (some mb),vs] K.bt) :=by
 have hsb:W3.heap[sb]?=some (.cells #[.map (some mb),vs] K.bt) :=by rw[gU.block sb (Array.getElem?_eq_some_iff.1 oP).1 (fun e=>by obtain⟨_,cur,h2⟩ :=aA hrow e;rw[oP]at h2;simp only[aat,aa8]at h2;exact hne h2.2.1)];exact oP
 have mU:W3.heap[mb]?=W2.heap[mb]?:=gU.block mb hm.lt (fun e=>by obtain⟨_,cur,h2⟩ :=aA hrow e;obtain⟨es,c,h3,_⟩ :=hm;rw[h3]at h2;cases h2);have hmsb:mb≠sb:=by rintro rfl;obtain⟨es,c,h3,_⟩ :=hm;rw[h3]at oP;cases oP
 refine⟨⟨?_,aab ⟨mb,rfl,hmb,hm.keep ((ay W3 sb 1 _ mb hmsb).trans mU)⟩,?_,hn,jO⟩,hsb⟩;·have:=aL hsb 1 v';simpa using this
 ·rw[aa',abz,Vx];refine aG ho (fun b hk=>ay W3 sb 1 _ b ?_);rintro rfl;obtain⟨_,c1,h3⟩ :=aA ho hk;rw[hsb]at h3;simp only[aat,aa8]at h3;exact hne h3.2.1
end
theorem Tryd.infoI:(Tryd.prog.info? 3).map (fun i=>(i.zero,i.size,i.bytes))=some (some (.int .i64 0),1,8) :=by kernel_rfl
def dX:uz Int:=⟨3,140,142,1,(aa5 .i64 ·),fun x=>#[aa5 .i64 x],(fun x=> -9223372036854775808≤x∧x≤9223372036854775807)⟩
theorem Sm:(dX).Ok:=⟨Tryd.underlying140,Maps.int_keyed Tryd.underlying3,fun x h=>⟨_,Maps.keyOf_int_mk Tryd.underlying3 (WalkArith.wf_i64 (by unfold dX at h;dsimp only at h;omega))⟩,fun x y h=>by simpa[dX]using h⟩
theorem acg(w:aah) :(binOp BinOp.eql 140 (.map none) (.map none)).run Tryd.prog w= .ok (.bool true) w:=by first|kernel_rfl|simp[binOp,Tryd.underlying140]|go_simp
theorem YX(w:aah)(mb:Nat) :(binOp BinOp.eql 140 (.map (some mb)) (.map none)).run Tryd.prog w= .ok (.bool false) w:=by first|kernel_rfl|simp[binOp,Tryd.underlying140]|go_simp
theorem YW(w:aah) :(abE 140 none).run Tryd.prog w= .ok (.map (some w.heap.size)) (w.alloc (.map #[] 0)) :=by first|kernel_rfl|simp[abE,Tryd.underlying140]|go_simp
theorem uW(base sb:Nat)(vm vs:aaa)(L:List Int)(x:Int)(W:aah)(hok:(dX).ok x)(hb:(L.length+1)*8≤140737488355328)(hbase:base≤W.heap.size)(h:bA dX W base sb vm vs L) :Calls Tryd.prog 79 #[.pointer (some ⟨sb,0,none⟩),(dX).enc x] W (Gd dX W base sb vm vs L x) :=by
 obtain⟨i0,hi0,hz0,hz1,hz2⟩ :=info_parts Tryd.infoI;have c0:W.cell? ⟨sb,0,none⟩=some vm:=aj h.box 0;have c1:W.cell? ⟨sb,1,none⟩=some vs:=aj h.box 1;have hsb:=h.lt;have H:=ah h;have hown:=h.row;have hmn:=acg;have hms:=YX;have fz: ∀j,W.frozen? ⟨sb,j,none⟩=false:=fun j=>aa1 W sb j _ _ h.box;by_cases hx:x∈L
 ·obtain⟨mb,rfl,hm1,hm2⟩ : ∃mb,vm= .map (some mb)∧base≤mb∧jy dX W mb L:=by
   rcases h.map with⟨_,rfl⟩|h1;·simp at hx
   ·exact h1
  rcases hm2.look Sm h.oks x hok with⟨h1,_⟩| ⟨j,h1,h2⟩;·exact absurd hx h1
  have h2':(aau 140 (.map (some mb)) (.int .i64 x) true).run Tryd.prog W= .ok (.tuple #[.int .i64 (j:Int),.bool true]) W:=h2;have HJ:Hid (ix L x=j) :=uP h.nodup h1;have HM:=ah (dZ hx);clear h h1 h2 hm2 hown hx;show Calls Tryd.prog 79 #[.pointer (some ⟨sb,0,none⟩),.int .i64 x] W _;go_enter Tryd.func79,Tryd.ntmps79;go_wp2_with fail;go_ret;exact⟨by rw[HM.out,HJ.out];rfl,_,_,by rw[HM.out];exact H.out,But.refl _ _,fun b hb=>aal hb,fun b hb=>aal hb⟩
 ·have hI:ix (meet L x) x=L.length:=by rw[cK hx,jr hx]
  have HI:=ah hI;have HM:=ah (cK hx);have hln:((L.length:Nat) :Int)≤140737488355328:=by omega
  have HX:=ah hx;have j4:=ah h.oks;have wI:Hid (∀y∈L++ [x],(dX).ok y) :=fun y hy=>by
   rcases List.mem_append.1 hy with h1|h1;·exact h.oks y h1
   ·rw[List.mem_singleton.1 h1];exact hok
  have Cb:Hid ((L++ [x]).Nodup) :=by show List.Nodup _;rw[abI];exact⟨h.nodup,by simp,fun a ha b hb' e=>hx (by rw[List.mem_singleton.1 hb']at e;rw[←e];exact ha)⟩
  have hlk:(∀(mb:Nat),vm= .map (some mb)→(aau 140 (.map (some mb)) (.int .i64 x) true).run Tryd.prog W= .ok (.tuple #[.int .i64 0,.bool false]) W) :=by
   rintro mb rfl;rcases h.map with⟨h1,_⟩| ⟨mb',h1,_,h2⟩;·cases h1
   ·cases h1;rcases h2.look Sm h.oks x hok with⟨_,h4⟩| ⟨j,h4,_⟩;·exact h4
    ·exact JR
  obtain⟨ad,cp,rfl,_⟩ : ∃ad cp,vs= .slice ad L.length cp∧True:=by
   rcases hown.2 with⟨h1,h2⟩| ⟨g,cap,cur,h1,_⟩;·exact⟨none,0,by rw[h1,h2],trivial⟩
   ·exact⟨_,cap,h1,trivial⟩
  rcases h.map with⟨rfl,hl⟩| ⟨mb,rfl,hmb,hmk⟩
  ·have hz1':(((W.alloc (.map #[] 0)).setCell ⟨sb,0,none⟩ (.map (some W.heap.size)))).heap.size=W.heap.size+1:=by simp
   have dD:(W.alloc (.map #[] 0)).heap[sb]?=some (.cells #[.map none,.slice ad L.length cp] 142) :=by rw[Below.heap_alloc _ _ _ hsb];exact h.box
   have hb1:(((W.alloc (.map #[] 0)).setCell ⟨sb,0,none⟩ (.map (some W.heap.size)))).heap[sb]?=some (.cells #[.map (some W.heap.size),.slice ad L.length cp] 142) :=by have:=aL dD 0 (.map (some W.heap.size));simpa using this
   have hM1:jy dX ((W.alloc (.map #[] 0)).setCell ⟨sb,0,none⟩ (.map (some W.heap.size))) W.heap.size L:=by rw[hl];exact(Kr W).keep (ay _ sb 0 _ _ (by omega))
   have jl:Hid (((W.alloc (.map #[] 0)).setCell ⟨sb,0,none⟩ (.map (some W.heap.size))).ownsRow base 3 1 (.slice ad L.length cp) L.length (gV dX L)) :=aG hown (fun b hk=>by obtain⟨_,cur,h2⟩ :=aA hown hk;rw[ay _ sb 0 _ b (aN h2 h.box (by decide)),Below.heap_alloc _ _ _ (Array.getElem?_eq_some_iff.1 h2).1]);have xQ:Hid (W.heap.size≠sb) :=by show _≠_;omega
   have Xt:Hid (But (bB sb (.map none) (.slice ad L.length cp)) W ((W.alloc (.map #[] 0)).setCell ⟨sb,0,none⟩ (.map (some W.heap.size)))) :=((But.refl _ _).alloc _).set sb 0 _ (aal rfl);have yD:Hid (aaE none= .map (some W.heap.size)∨W.heap.size≤W.heap.size) :=aab (aaR _);have wP:Hid (bB sb (.map none) (.slice ad L.length cp) W.heap.size∨W.heap.size≤W.heap.size) :=aab (aaR _);have mF:Hid (base≤W.heap.size) :=hbase;have adi:=look_nil Sm W x hok;have arf:(aau 140 (.map none) (.int .i64 x) true).run Tryd.prog W= .ok (.tuple #[.int .i64 0,.bool false]) W:=adi;have OG: ∀j,(W.alloc (.map #[] 0)).frozen? ⟨sb,j,none⟩=false:=fun j=>aa1 _ sb j _ _ dD;have cA:(W.alloc (.map #[] 0)).cell? ⟨sb,0,none⟩=some (.map none) :=aj dD 0;have cB:((W.alloc (.map #[] 0)).setCell ⟨sb,0,none⟩ (.map (some W.heap.size))).cell? ⟨sb,0,none⟩=some (.map (some W.heap.size)) :=aj hb1 0
   have cC:((W.alloc (.map #[] 0)).setCell ⟨sb,0,none⟩ (.map (some W.heap.size))).cell? ⟨sb,1,none⟩=some (.slice ad L.length cp) :=aj hb1 1;have hmk:(abE 140 none).run Tryd.prog W= .ok (.map (some W.heap.size)) (W.alloc (.map #[] 0)) :=YW W;have GR:=ah hl;clear h hown adi hlk dD hl;obtain⟨W2,hput,hm2,hg2,hz2'⟩ :=hM1.put Sm j4.out x hok HX.out;have ajP:(abd 140 (.map (some W.heap.size)) (.int .i64 x) (.int .i64 (L.length:Int))).run Tryd.prog ((W.alloc (.map #[] 0)).setCell ⟨sb,0,none⟩ (.map (some W.heap.size)))= .ok () W2:=hput;have hb2:W2.heap[sb]?=some (.cells #[.map (some W.heap.size),.slice ad L.length cp] 142) :=by exact aak
   have dO:Hid (W2.ownsRow base 3 1 (.slice ad L.length cp) L.length (gV dX L)) :=aG jl.out (fun b hk=>hg2.block b (Array.getElem?_eq_some_iff.1 (aA jl.out hk).2.choose_spec).1 (fun e=>by
    obtain⟨_,cur,h2⟩ :=aA jl.out hk;obtain⟨es,c,h3,_⟩ :=hM1;have e':b=W.heap.size:=by simpa using e
    rw[e',h3]at h2;cases h2));have kT:Hid (But (bB sb (.map none) (.slice ad L.length cp)) W W2) :=Xt.out.grown hg2 (fun k hk=>by
    have:W.heap.size=k:=by simpa using hk
    subst this;exact wP.out);have gW:=ah hm2;have HB2:=ah hb2;have hcap2:base≤W2.heap.size:=by rw[hz2',hz1'];omega
   have d1:W2.cell? ⟨sb,1,none⟩=some (.slice ad L.length cp) :=aj hb2 1;have OH: ∀j,W2.frozen? ⟨sb,j,none⟩=false:=fun j=>aa1 W2 sb j _ _ hb2;have IG:=ah hsb;clear hput hm2 hg2 hz2' hM1 hsb;show Calls Tryd.prog 79 #[.pointer (some ⟨sb,0,none⟩),.int .i64 x] W _;go_enter Tryd.func79,Tryd.ntmps79;go_wp2_with(at_builtin;refine nC rfl _ _ 56 3 rfl i0 (.int .i64 0) 1 8 Tryd.underlying56 hi0 hz0 hz1 hz2 rfl (by decide) base _ _ _ rfl dO.out ((dX).cells x) rfl (by intro y hy;simp[dX]at hy;subst hy;rfl) rfl hb (by decide) hcap2 ?_);intro v' W3 ho3 qc mJ wT;obtain⟨g3,c3,rfl⟩ : ∃g c,v'= .slice (some ⟨g,0,none⟩) (L.length+1) c:=by exact Zj
   have HP:=bA.pushed (K:=dX) (by decide) HB2.out gW.out mF.out dO.out qc ho3 Cb.out wI.out;have hb3:W3.heap[sb]?=some (.cells #[.map (some W.heap.size),.slice ad L.length cp] 142) :=HP.2;have bY:=ah HP.1;have jJ:Hid (But (bB sb (.map none) (.slice ad L.length cp)) W (W3.setCell ⟨sb,1,none⟩ (.slice (some ⟨g3,0,none⟩) (L.length+1) c3))) :=(kT.out.trans qc (Z:=bB sb (.map none) (.slice ad L.length cp)) (fun _ _ h=>h) (fun _ _ h=>aab (aab h))).set sb 1 _ (aal rfl);have HAT:Hid ((∀b,(aa4 (some ⟨g3,0,none⟩) (L.length+1) c3).ownBlock=some b→(aa4 ad L.length cp).ownBlock=some b∨W.heap.size≤b)∧∀b,aaE (some W.heap.size)= .map (some b)→(.map none)=aaE (some b)∨W.heap.size≤b) :=by
    refine⟨fun b e=>(mJ b e).imp id (fun h=>abt kT.out.size h),fun b e=> ?_⟩;have:W.heap.size=b:=by simpa using e
    subst this;first|exact yD.out|exact aal rfl
   exact aik
  ·have hz1':W.heap.size=W.heap.size+0:=rfl;have hb1:W.heap[sb]?=some (.cells #[.map (some mb),.slice ad L.length cp] 142) :=h.box;have hM1:=hmk;have jl:=ah hown;have xQ:Hid (mb≠sb) :=by show _≠_;rintro rfl;obtain⟨es,c,h3,_⟩ :=hmk;rw[h3]at hb1;cases hb1
   have Xt:Hid (But (bB sb (.map (some mb)) (.slice ad L.length cp)) W W) :=But.refl _ _;have yD:Hid (aaE (some mb)= .map (some mb)∨W.heap.size≤mb) :=aal rfl;have wP:Hid (bB sb (.map (some mb)) (.slice ad L.length cp) mb∨W.heap.size≤mb) :=aal (aab (aal rfl));have mF:=ah hmb;have ar3:=hlk mb rfl;clear h hown hlk;obtain⟨W2,hput,hm2,hg2,hz2'⟩ :=hM1.put Sm j4.out x hok HX.out;have ajP:(abd 140 (.map (some mb)) (.int .i64 x) (.int .i64 (L.length:Int))).run Tryd.prog W= .ok () W2:=hput;have hb2:W2.heap[sb]?=some (.cells #[.map (some mb),.slice ad L.length cp] 142) :=by exact aak
   have dO:Hid (W2.ownsRow base 3 1 (.slice ad L.length cp) L.length (gV dX L)) :=aG jl.out (fun b hk=>hg2.block b (Array.getElem?_eq_some_iff.1 (aA jl.out hk).2.choose_spec).1 (fun e=>by
    obtain⟨_,cur,h2⟩ :=aA jl.out hk;obtain⟨es,c,h3,_⟩ :=hM1;have e':b=mb:=by simpa using e
    rw[e',h3]at h2;cases h2));have kT:Hid (But (bB sb (.map (some mb)) (.slice ad L.length cp)) W W2) :=Xt.out.grown hg2 (fun k hk=>by
    have:mb=k:=by simpa using hk
    subst this;exact wP.out);have gW:=ah hm2;have HB2:=ah hb2;have hcap2:base≤W2.heap.size:=by rw[hz2',hz1'];omega
   have d1:W2.cell? ⟨sb,1,none⟩=some (.slice ad L.length cp) :=aj hb2 1;have OH: ∀j,W2.frozen? ⟨sb,j,none⟩=false:=fun j=>aa1 W2 sb j _ _ hb2;have IG:=ah hsb;clear hput hm2 hg2 hz2' hM1 hsb;show Calls Tryd.prog 79 #[.pointer (some ⟨sb,0,none⟩),.int .i64 x] W _;go_enter Tryd.func79,Tryd.ntmps79;go_wp2_with(at_builtin;refine nC rfl _ _ 56 3 rfl i0 (.int .i64 0) 1 8 Tryd.underlying56 hi0 hz0 hz1 hz2 rfl (by decide) base _ _ _ rfl dO.out ((dX).cells x) rfl (by intro y hy;simp[dX]at hy;subst hy;rfl) rfl hb (by decide) hcap2 ?_);intro v' W3 ho3 qc mJ wT;obtain⟨g3,c3,rfl⟩ : ∃g c,v'= .slice (some ⟨g,0,none⟩) (L.length+1) c:=by exact Zj
   have HP:=bA.pushed (K:=dX) (by decide) HB2.out gW.out mF.out dO.out qc ho3 Cb.out wI.out;have hb3:W3.heap[sb]?=some (.cells #[.map (some mb),.slice ad L.length cp] 142) :=HP.2;have bY:=ah HP.1;have jJ:Hid (But (bB sb (.map (some mb)) (.slice ad L.length cp)) W (W3.setCell ⟨sb,1,none⟩ (.slice (some ⟨g3,0,none⟩) (L.length+1) c3))) :=(kT.out.trans qc (Z:=bB sb (.map (some mb)) (.slice ad L.length cp)) (fun _ _ h=>h) (fun _ _ h=>aab (aab h))).set sb 1 _ (aal rfl);have HAT:Hid ((∀b,(aa4 (some ⟨g3,0,none⟩) (L.length+1) c3).ownBlock=some b→(aa4 ad L.length cp).ownBlock=some b∨W.heap.size≤b)∧∀b,aaE (some mb)= .map (some b)→(.map (some mb))=aaE (some b)∨W.heap.size≤b) :=by
    refine⟨fun b e=>(mJ b e).imp id (fun h=>abt kT.out.size h),fun b e=> ?_⟩;have:mb=b:=by simpa using e
    subst this;first|exact yD.out|exact aal rfl
   exact aik
end Go.Proofs.YtkbjimkngmlfcaaDoor
