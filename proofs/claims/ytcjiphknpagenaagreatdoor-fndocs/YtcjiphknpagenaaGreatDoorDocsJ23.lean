import Derived.Test.YtcjiphknpagenaaGreatDoorDocsJ22
namespace Go.Proofs.YtcjiphknpagenaaGreatDoor
open Go Go.RowKit
set_option linter.unusedVariables false
set_option linter.unusedSimpArgs false
set_option maxRecDepth 100000
set_option maxHeartbeats 8000000
theorem dB.but {X:Nat→Prop} {w w':World} {a:Option Addr} {l:List (List UInt8×List UInt8)}(h:dB w a l)(hb:But X w w')(hx: ∀b off,a=some ⟨b,off,none⟩→¬X b) :dB w' a l:=by
 rcases h with h| ⟨b,off,h1,h2,h3⟩;·exact Or.inl h
 ·exact Or.inr ⟨b,off,h1,Nat.lt_of_lt_of_le h2 hb.size,fun t ht=>⟨(hb.cell (p:=⟨b,off+t*2,none⟩) h2 (hx b off h1)).trans (h3 t ht).1,(hb.cell (p:=⟨b,off+t*2+1,none⟩) h2 (hx b off h1)).trans (h3 t ht).2⟩⟩
theorem DV {wc W w':World} {X:Nat→Prop} {v':Value} {l':List Tk}(hb:But X wc W)(ho:w'.ownsRow W.heap.size 46 4 v' l'.length (ak l'))(hw:Below W.heap.size W w') :vK wc X w' v' l'∧But X wc w':=⟨⟨dS ho (Nat.zero_le _),fun b e=>Or.inr (Nat.le_trans hb.size (bW ho b e))⟩,hb.trans (But.of_below (X:=X) hw) (fun _ _ h=>h) (fun _ _ h=>h)⟩
theorem X3 {wc:World} {X:Nat→Prop}(fo st ph:Bool)(aS aY:Option Addr)(cS cY nS:Nat)(lo hi:Int)(af:List (List UInt8×List UInt8))(hY:dB wc aY af)(hX:af= []∨∀b off,aY=some ⟨b,off,none⟩→¬X b)(Al:af.length≤64)(zY: ∀k,k<af.length→(af.getD k ([],[])).2.length≤64) :vv 121 #[.agg #[.bool fo,.bool st,.bool ph,.slice aS nS cS,.slice aY af.length cY,.int .i64 lo,.int .i64 hi]] #[] wc X (fun l=>l.length≤8192) (fun l=>(fM af l,0)) :=by intro W v l hb ho hP;obtain⟨aT,cT,rfl,hT,_⟩ :=kJ ho.1;refine(Nn fo st ph aS aY aT cS cY cT nS af lo hi l W (by rcases hX with h0|hX;exact Or.inl h0;exact hY.but hb hX) hT hP Al zY).mono ?_;rintro e w'⟨v',rfl,h1,h2⟩;exact⟨v',rfl,DV hb h1 h2⟩
theorem RH {wc:World} {X:Nat→Prop}(fo st ph:Bool)(vS vY:Value)(lo hi:Int)(hT: ∀W,But X wc W→Tabs W) :vv 124 #[.agg #[.bool fo,.bool st,.bool ph,vS,vY,.int .i64 lo,.int .i64 hi]] #[] wc X (ES 65) (fun l=>fD lo hi [] l) :=by intro W v l hb ho hP;obtain⟨aT,cT,rfl,hH,_⟩ :=kJ ho.1;refine(Jj fo st ph vS vY aT cT lo hi l W (hT W hb) hH hP.1 hP.2).mono ?_;rintro e w'⟨v',rfl,h1,h2⟩;exact⟨v',rfl,DV hb h1 h2⟩
theorem Xx {wc:World} {X:Nat→Prop} :vv 126 #[] #[] wc X (ES 1048576) (fun l=>(lF l,0)) :=by intro W v l hb ho hP;obtain⟨aT,cT,rfl,hH,_⟩ :=kJ ho.1;refine(Gn aT cT l W hH hP.1 hP.2).mono ?_;rintro e w'⟨v',rfl,h1,h2⟩;exact⟨v',rfl,DV hb h1 h2⟩
theorem wF(h:FuncId)(w:World) :Calls Tryz.prog 118 #[.func (.func h) #[] #[]] w fun e w'=>e= .returned (.func (.func 135) #[] #[.pointer (some ⟨w.heap.size,0,none⟩)])∧w'=w.alloc (.cells #[.func (.func h) #[] #[]] 120) :=by go_enter Tryz.func118,Tryz.ntmps118;go_wp2_with fail;go_returns;exact⟨rfl,rfl⟩
def zR(l:List Tk) :List Tk×Int:=(l,0)
def Xz(af:List (List UInt8×List UInt8))(l:List Tk) :List Tk×Int:=(fM af l,0)
def qI(T:List UInt8→List UInt8)(l:List Tk) :List Tk×Int:=(fK T l,0)
def wK(l:List Tk) :List Tk×Int:=(l.filter fun x=> !decide (64<x.1.length),0)
def Bo(l:List Tk) :List Tk×Int:=(lF l,0)
def CJ(stops:List (List UInt8))(l:List Tk) :List Tk×Int:=(l.filter fun x=> !iR stops x.1,0)
def optG(b:Bool)(G H:List Tk→List Tk×Int) :List Tk→List Tk×Int:=if b=true then iC G H else H
def Cz(fo:Bool)(stops:List (List UInt8)) :List Tk→List Tk×Int:=optG fo (qI tH) (iC (CJ stops) zR)
def JE(st ph:Bool)(af:List (List UInt8×List UInt8))(lo hi:Int) :List Tk→List Tk×Int:=iC (Xz af) (optG st (qI gU) (optG ph (qI (bQ true)) (optG (lo !=0) (fD lo hi []) (iC wK (iC Bo zR)))))
theorem map_id'(l:List (List UInt8)) :(l.map fun x=>x)=l:=by simp
theorem Dn(af:List (List UInt8×List UInt8))(k:Tk) :fM af [k]=aG k (bB af k.1) :=by simp[fM]
theorem CZ(T:List UInt8→List UInt8)(k:Tk)(l:List (List UInt8)) :fK T (aG k l)=aG k (l.map T) :=by simp[fK,aG]
theorem Sk(k:Tk)(a b:List (List UInt8)) :aG k (a++b)=aG k a++aG k b:=by simp[aG]
def ja(lo hi:Int) :List (List UInt8)→List (List UInt8)→List (List UInt8) ×Int
 |o,[]=>(o,0)
 |o,y::ys=>if codeOf lo hi y=0 then ja lo hi (o++jf lo hi y) ys else([],codeOf lo hi y)
theorem WW(o a b:List (List UInt8)) :jD o (a++b)=jD (jD o a) b:=by simp[jD,List.foldl_append]
theorem Az(st ph:Bool)(lo hi:Int) : ∀(xs p o:List (List UInt8)),iK st ph lo hi (jD o p) xs=if(ja lo hi p (xs.map fun x=>bQ ph (eO st x))).2=0 then(jD o (ja lo hi p (xs.map fun x=>bQ ph (eO st x))).1,0)else([],(ja lo hi p (xs.map fun x=>bQ ph (eO st x))).2)
 | [],p,o=>by simp[iK,ja]
 |x::xs,p,o=>by
  rw[iK,List.map_cons,ja];by_cases h:codeOf lo hi (bQ ph (eO st x))=0;·rw[if_pos h,if_pos h,←WW];exact Az st ph lo hi xs _ o
  ·rw[if_neg h,if_neg h];simp[h]
theorem E9(hi:Int) : ∀(ys o:List (List UInt8)),ja 0 hi o ys=(o++ys,0)
 | [],o=>by simp[ja]
 |y::ys,o=>by rw[ja,if_pos (by simp[codeOf]),E9 hi ys];simp[jf]
theorem EO(lo hi:Int)(hlo:0<lo)(k:Tk) : ∀(ys o:List (List UInt8)),fD lo hi (aG k o) (aG k ys)=(aG k (ja lo hi o ys).1,(ja lo hi o ys).2)
 | [],o=>by simp[ja,aG,fD]
 |y::ys,o=>by
  have e:aG k (y::ys)=(y,k.2) ::aG k ys:=rfl;have hl:jf lo hi y=eX (bs y) lo hi:=by rw[jf,if_pos hlo]
  have hc:codeOf lo hi y=dw (bs y) lo hi:=by rw[codeOf,if_pos hlo]
  rw[e,fD,ja,hl,hc];by_cases h:dw (bs y) lo hi=0;·rw[if_pos h,if_pos h,←EO lo hi hlo k ys,Sk];rfl
  ·rw[if_neg h,if_neg h];rfl
theorem Xi(k:Tk)(ys:List (List UInt8)) :lF ((aG k ys).filter fun x=> !decide (64<x.1.length))=aG k (jD [] ys) :=by
 have key: ∀(ys o:List (List UInt8)),((aG k ys).filter fun x=> !decide (64<x.1.length)).foldl vT (aG k o)=aG k (ys.foldl lU o) :=by
  intro ys;induction ys with
  |nil=>intro o;rfl
  |cons y ys ih=>
   intro o;have e:aG k (y::ys)=(y,k.2) ::aG k ys:=rfl;have hm:(aG k o).map (fun x=>x.1)=o:=by rw[aG,List.map_map];exact map_id' o
   rw[e,List.foldl_cons];by_cases h:64<y.length
   ·rw[List.filter_cons_of_neg (by simpa using h),ih];have:lU o y=o:=by rw[lU,if_neg];simp;omega
    rw[this]
   ·rw[List.filter_cons_of_pos (by simpa using h),List.foldl_cons];have:vT (aG k o) (y,k.2)=aG k (lU o y) :=by
     rw[vT,hm,lU];cases hh:iR o y
     ·have h':decide (y.length≤64)=true:=by simpa using h
      simp[h',aG]
     ·simp
    rw[this,ih]
 exact key ys []
def iN(st ph:Bool)(af:List (List UInt8×List UInt8))(lo hi:Int)(t:List UInt8) :List (List UInt8) ×Int:=iK st ph lo hi [] (bB af t)
theorem l7 {G H:List Tk→List Tk×Int} {l m:List Tk}(h:G l=(m,0)) :iC G H l=H m:=by rw[iC,h];simp
theorem SX(st ph:Bool)(af:List (List UInt8×List UInt8))(lo hi:Int)(hlo:lo=0∨0<lo)(k:Tk) :JE st ph af lo hi [k]=(aG k (iN st ph af lo hi k.1).1,(iN st ph af lo hi k.1).2) :=by
 have h0:iN st ph af lo hi k.1=if(ja lo hi [] ((bB af k.1).map fun x=>bQ ph (eO st x))).2=0 then(jD [] (ja lo hi [] ((bB af k.1).map fun x=>bQ ph (eO st x))).1,0)else([],(ja lo hi [] ((bB af k.1).map fun x=>bQ ph (eO st x))).2) :=Az st ph lo hi (bB af k.1) [] [];rw[h0,JE,l7 (m:=aG k (bB af k.1)) (by rw[Xz,Dn])];have h1: ∀H,optG st (qI gU) H (aG k (bB af k.1))=H (aG k ((bB af k.1).map (eO st))) :=by
  intro H;cases st
  ·have:(eO false)=fun x=>x:=by funext x;simp[eO]
   rw[this,map_id'];rfl
  ·have:(eO true)=gU:=by funext x;simp[eO]
   rw[this,optG,if_pos rfl,l7 (m:=aG k ((bB af k.1).map gU)) (by rw[qI,CZ])]
 rw[h1];have h2: ∀H L,optG ph (qI (bQ true)) H (aG k L)=H (aG k (L.map (bQ ph))) :=by
  intro H L;cases ph
  ·have:(bQ false)=fun x=>x:=by funext x;simp[bQ]
   rw[this,map_id'];rfl
  ·rw[optG,if_pos rfl,l7 (m:=aG k (L.map (bQ true))) (by rw[qI,CZ])]
 rw[h2,List.map_map];have h3: ∀L,iC wK (iC Bo zR) (aG k L)=(aG k (jD [] L),0) :=by intro L;rw[l7 (by rw[wK]),l7 (by rw[Bo]),zR,Xi]
 have he:(bB af k.1).map (bQ ph∘eO st)=(bB af k.1).map fun x=>bQ ph (eO st x) :=rfl;rw[he];generalize(bB af k.1).map (fun x=>bQ ph (eO st x))=ys;rcases hlo with rfl|hlo;·rw[optG,if_neg (by simp),h3,E9];simp
 ·have hb:(lo !=0)=true:=by rw[bne_iff_ne];omega
  rw[optG,if_pos hb,iC];have h4:fD lo hi [] (aG k ys)=(aG k (ja lo hi [] ys).1,(ja lo hi [] ys).2) :=EO lo hi hlo k ys [];rw[h4];by_cases h:(ja lo hi [] ys).2=0;·rw[if_pos h,if_pos h,h3]
  ·rw[if_neg h,if_neg h];rfl
theorem D5(fo:Bool)(stops:List (List UInt8))(l:List Tk) :Cz fo stops l=((fK (eH fo) l).filter (fun x=> !iR stops x.1),0) :=by
 rw[Cz];cases fo
 ·have:(eH false)=fun x=>x:=by funext x;simp[eH]
  rw[this,optG,if_neg (by simp),l7 (by rw[CJ]),zR];simp[fK]
 ·have:(eH true)=tH:=by funext x;simp[eH]
  rw[this,optG,if_pos rfl,l7 (by rw[qI]),l7 (by rw[CJ]),zR]
theorem Fb(fo st ph:Bool)(stops:List (List UInt8))(af:List (List UInt8×List UInt8))(lo hi:Int) : ∀(ks o:List Tk),o.length≤8192→jE (gV fo st ph stops af lo hi) o ks=jE (iN st ph af lo hi) o (Cz fo stops ks).1
 | [],o,_=>by rw[D5];rfl
 |k::ks,o,ho=>by
  have ih:=fun o ho=>Fb fo st ph stops af lo hi ks o ho;rw[D5]at ih⊢;have e:fK (eH fo) (k::ks)=(eH fo k.1,k.2) ::fK (eH fo) ks:=rfl;rw[e,jE];by_cases hs:iR stops (eH fo k.1)=true
  ·have hf:gV fo st ph stops af lo hi k.1=([],0) :=by rw[gV,if_pos hs]
   rw[hf,List.filter_cons_of_neg (by simp[hs])];simp only[aG,List.map_nil,List.append_nil,if_true];rw[if_pos ho];exact ih o ho
  ·have hf:gV fo st ph stops af lo hi k.1=iN st ph af lo hi (eH fo k.1) :=by rw[gV,if_neg hs];rfl
   rw[hf,List.filter_cons_of_pos (by simpa using hs),jE];dsimp only;by_cases hc:(iN st ph af lo hi (eH fo k.1)).2=0
   ·rw[if_pos hc,if_pos hc];have hw:aG k (iN st ph af lo hi (eH fo k.1)).1=aG (eH fo k.1,k.2) (iN st ph af lo hi (eH fo k.1)).1:=rfl;rw[hw];by_cases hl:(o++aG (eH fo k.1,k.2) (iN st ph af lo hi (eH fo k.1)).1).length≤8192;·rw[if_pos hl,if_pos hl];exact ih _ hl
    ·rw[if_neg hl,if_neg hl]
   ·rw[if_neg hc,if_neg hc]
structure P7(w:World)(aS aY:Option Addr)(stops:List (List UInt8))(af:List (List UInt8×List UInt8))(lo hi:Int) :Prop where
 tabs:Tabs w
 nu:bE w aS stops
 syn:dB w aY af
 nS:stops.length≤64
 nY:af.length≤64
 zY: ∀k,k<af.length→(af.getD k ([],[])).2.length≤64
def CE(l:List Tk) :Prop:=l.length≤8192∧∀k,k<l.length→aJ (bs (l.getD k bS).1)=0
theorem Qz(T:List UInt8→List UInt8)(l:List Tk)(k:Nat)(h:k<l.length) :(fK T l).getD k bS=(T (l.getD k bS).1,(l.getD k bS).2) :=by simp[fK,h]
theorem J2(t:List UInt8)(h:aJ (bs t)=0) :(tH t).length≤262144:=by have h1:=Hl t (by have:=(vZ _ h).2;exact this);rw[aK]at h1;exact h1
theorem UL {w0 wc:World} {X:Nat→Prop} {aS aY:Option Addr} {stops:List (List UInt8)} {af:List (List UInt8×List UInt8)} {lo hi:Int}(hz:P7 w0 aS aY stops af lo hi)(hb:Below w0.heap.size w0 wc)(hX: ∀b,X b→w0.heap.size≤b)(fo st ph:Bool)(cS cY:Nat)(B:Nat)(hB:fo=true→wc.heap[B]?=some (.cells #[.func (.func 119) #[] #[]] 120)∧¬X B) :dP wc X ((if fo=true then[.func (.func 135) #[] #[.pointer (some ⟨B,0,none⟩)]]else[])++ [.func (.func 120) #[.agg #[.bool fo,.bool st,.bool ph,.slice aS stops.length cS,.slice aY af.length cY,.int .i64 lo,.int .i64 hi]] #[]]) CE (Cz fo stops) :=by
 have hlow: ∀b,b<w0.heap.size→¬X b:=fun b h hx=>by have:=hX b hx;omega
 have hall: ∀W,But X wc W→Below w0.heap.size w0 W:=fun W hW=>hb.trans (hW.below hb.size hlow);have hS:vv 120 #[.agg #[.bool fo,.bool st,.bool ph,.slice aS stops.length cS,.slice aY af.length cY,.int .i64 lo,.int .i64 hi]] #[] wc X (ES 1048576) (CJ stops) :=by
  exact VP fo st ph aS cS _ lo hi stops (by have:=hz.nS;omega) (hz.nu.below hb) (by
   rcases hz.nu with h| ⟨b',off',h1,h2,_⟩;·exact Or.inl h
   ·exact Or.inr fun b off e=>by rw[e]at h1;cases h1;exact hlow _ h2)
 cases fo with
 |false=>show dP wc X [_] CE (iC (CJ stops) zR);refine dP.cons _ _ _ [] CE (fun _=>True) _ _ Tryz.call120 ?_ (fun _ _ _=>trivial) (dP.nil _);intro W v l h1 h2 h3;exact hS W v l h1 h2 ⟨by have:=h3.1;omega,fun k hk=>by have:=(vZ _ (h3.2 k hk)).2;rw[aK]at this;omega⟩
 |true=>
  obtain⟨hB1,hB2⟩ :=hB rfl;show dP wc X [_,_] CE (iC (qI tH) (iC (CJ stops) zR));refine dP.cons _ _ _ [_] CE (ES 1048576) _ _ Tryz.call135 ?_ ?_ (dP.cons _ _ _ [] (ES 1048576) (fun _=>True) _ _ Tryz.call120 hS (fun _ _ _=>trivial) (dP.nil _));·intro W v l h1 h2 h3;exact DW 119 tH (fun t=>aJ (bs t)=0) hB1 hB2 Tryz.call119 (fun W' t hW ht=>J4 t W' ht (hz.tabs.below (hall W' hW))) W v l h1 h2 ⟨by have:=h3.1;omega,h3.2⟩
  ·intro l hl _;refine⟨by rw[qI,nA];have:=hl.1;omega,fun k hk=> ?_⟩;rw[qI,nA]at hk;rw[qI,Qz _ _ _ hk];have:=J2 _ (hl.2 k hk);dsimp only;omega
def kE(n m:Nat)(l:List Tk) :Prop:=l.length≤n∧∀x∈l,x.1.length≤m
theorem kE.at {n m:Nat} {l:List Tk}(h:kE n m l)(k:Nat)(hk:k<l.length) :(l.getD k bS).1.length≤m:=by rw[List.getD_eq_getElem?_getD,List.getElem?_eq_getElem hk,Option.getD_some];exact h.2 _ (List.getElem_mem hk)
theorem kE.sz {n m N:Nat} {l:List Tk}(h:kE n m l)(hn:n≤N)(hm:m≤1048576) :ES N l:=⟨by have:=h.1;omega,fun k hk=>by have:=h.at k hk;omega⟩
theorem Ta(t:List Int) : ∀(f n:Nat),∀y∈qp t n f,y.length≤4*t.length
 |0,_,y,hy=>by simp[qp]at hy
 |f+1,n,y,hy=>by
  rw[qp]at hy;split at hy
  ·rcases List.mem_cons.1 hy with rfl|hy;·have:=ym (t.take n);rw[List.length_take]at this;omega
   ·exact Ta t f (n+1) y hy
  ·simp at hy
theorem Oy(lo f:Nat) : ∀(l:List Int),∀y∈lH lo f l,y.length≤4*l.length
 | [],y,hy=>by simp[lH]at hy
 |r::t,y,hy=>by
  rw[lH]at hy;rcases List.mem_append.1 hy with hy|hy;·exact Ta _ _ _ y hy
  ·have:=Oy lo f t y hy;rw[List.length_cons];omega
theorem WH(s:ByteArray)(lo hi:Int)(y:List UInt8)(hy:y∈eX s lo hi) :y.length≤262144:=by
 unfold eX at hy;split at hy
 ·rename_i hc;have hd:aJ s=0:=by
   unfold dw at hc;split at hc;·assumption
   ·rename_i h;exact absurd hc h
  have h1:=Oy _ _ _ y hy;have h2:(di s).length≤65536:=by have h3:=mG s;have h4:=(vZ s hd).2;have h5:di s=runes s:=(Dz s hd).1;rw[h5];omega
  omega
 ·simp at hy
theorem G9(lo hi:Int)(n:Nat) : ∀(l o:List Tk),kE n 262144 o→kE (n+l.length*4096) 262144 (fD lo hi o l).1
 | [],o,h=>by rw[fD];simpa using h
 |k::ks,o,h=>by
  rw[fD];split
  ·have hg:=Ms (bs k.1) lo hi;have h1:kE (n+4096) 262144 (o++aG k (eX (bs k.1) lo hi)) :=by
    refine⟨by rw[List.length_append,kK];have:=h.1;omega,fun x hx=> ?_⟩;rcases List.mem_append.1 hx with hx|hx;·exact h.2 x hx
    ·obtain⟨y,hy,rfl⟩ :=List.mem_map.1 hx;exact WH _ _ _ y hy
   have h2:=G9 lo hi (n+4096) ks _ h1;refine⟨?_,h2.2⟩;have:=h2.1;rw[List.length_cons];omega
  ·exact⟨Nat.zero_le _,fun x hx=>by simp at hx⟩
theorem O8(af:List (List UInt8×List UInt8))(hn:af.length≤64)(hz: ∀k,k<af.length→(af.getD k ([],[])).2.length≤64)(l:List Tk)(h:kE 1 262144 l) :kE 65 262144 (fM af l) :=by
 match l,h with
 | [],h=>exact⟨by simp[fM],fun x hx=>by simp[fM]at hx⟩
 | [k],h=>
  rw[Dn];refine⟨?_,fun x hx=> ?_⟩;·rw[kK,bB,List.length_cons];have:=pF af k.1;omega
  ·obtain⟨y,hy,rfl⟩ :=List.mem_map.1 hx;obtain⟨i,hi,rfl⟩ :=List.mem_iff_getElem.1 hy;have:=Kt af k.1 (h.2 k (by simp)) hz i hi;rw[List.getD_eq_getElem?_getD,List.getElem?_eq_getElem hi,Option.getD_some]at this;exact this
 |a::b::t,h=>have:=h.1;simp at this
theorem Lt(T:List UInt8→List UInt8)(hT: ∀x,x.length≤262144→(T x).length≤262144)(n:Nat)(l:List Tk)(h:kE n 262144 l) :kE n 262144 (fK T l) :=by refine⟨by rw[nA];exact h.1,fun x hx=> ?_⟩;obtain⟨y,hy,rfl⟩ :=List.mem_map.1 hx;exact hT _ (h.2 y hy)
theorem AJ {wc:World} {X:Nat→Prop} {P P':List Tk→Prop} {b:Bool} {g:FuncId} {bd lb:Array Value} {fs:List Value} {G H:List Tk→List Tk×Int}(eg: ∀args w,(callFunc g args).run Tryz.prog w= .ok (.enter g args) w)(hs:b=true→vv g bd lb wc X P G)(hp: ∀l,P l→(G l).2=0→P' (G l).1)(hr:dP wc X fs P' H)(hr0:b=false→dP wc X fs P H) :dP wc X ((if b=true then[.func (.func g) bd lb]else[])++fs) P (optG b G H) :=by
 cases b with
 |false=>exact hr0 rfl
 |true=>exact dP.cons g bd lb fs P P' G H eg (hs rfl) hp hr
theorem dP.weak {wc:World} {X:Nat→Prop} {fs:List Value} {P:List Tk→Prop} {H:List Tk→List Tk×Int}(h:dP wc X fs P H) {Q:List Tk→Prop}(hq: ∀l,Q l→P l) :dP wc X fs Q H:=by
 cases h with
 |nil=>exact dP.nil Q
 |cons g bd lb fs _ P' G H eg hs hp hr=>exact dP.cons g bd lb fs Q P' G H eg (fun W v l h1 h2 h3=>hs W v l h1 h2 (hq l h3)) (fun l h1 h2=>hp l (hq l h1) h2) hr
def oN(fo st ph:Bool)(aS aY:Option Addr)(cS cY nS nY:Nat)(lo hi:Int)(B1 B2:Nat) :List Value:=[.func (.func 121) #[.agg #[.bool fo,.bool st,.bool ph,.slice aS nS cS,.slice aY nY cY,.int .i64 lo,.int .i64 hi]] #[]]++((if st=true then[.func (.func 135) #[] #[.pointer (some ⟨B1,0,none⟩)]]else[])++((if ph=true then[.func (.func 135) #[] #[.pointer (some ⟨B2,0,none⟩)]]else[])++((if(lo !=0)=true then[.func (.func 124) #[.agg #[.bool fo,.bool st,.bool ph,.slice aS nS cS,.slice aY nY cY,.int .i64 lo,.int .i64 hi]] #[]]else[])++ [.func (.func 125) #[] #[],.func (.func 126) #[] #[]])))
theorem QZ {w0 wc:World} {aS aY:Option Addr} {stops:List (List UInt8)} {af:List (List UInt8×List UInt8)} {lo hi:Int}(hz:P7 w0 aS aY stops af lo hi)(hb:Below w0.heap.size w0 wc)(fo st ph:Bool)(cS cY:Nat)(B1 B2:Nat)(hB1:st=true→wc.heap[B1]?=some (.cells #[.func (.func 122) #[] #[]] 120))(hB2:ph=true→wc.heap[B2]?=some (.cells #[.func (.func 123) #[] #[]] 120)) :dP wc (fun _=>False) (oN fo st ph aS aY cS cY stops.length af.length lo hi B1 B2) (kE 1 262144) (JE st ph af lo hi) :=by
 have hall: ∀W,But (fun _=>False) wc W→Below w0.heap.size w0 W:=fun W hW=>hb.trans (hW.below hb.size (fun _ _ h=>h));have hlast:dP wc (fun _=>False) [.func (.func 125) #[] #[],.func (.func 126) #[] #[]] (kE 1000000 262144) (iC wK (iC Bo zR)) :=by refine dP.cons _ _ _ _ _ (ES 1048576) wK _ Tryz.call125 (fun W v l h1 h2 h3=>WO W v l h1 h2 (h3.sz (by omega) (by omega))) ?_ (dP.cons _ _ _ _ _ (fun _=>True) Bo _ Tryz.call126 Xx (fun _ _ _=>trivial) (dP.nil _));intro l hl _;refine kE.sz (n:=1000000) (m:=262144) ⟨?_,fun x hx=>hl.2 x ((List.mem_filter.1 hx).1)⟩ (by omega) (by omega);have:=List.length_filter_le (fun x:Tk=> !decide (64<x.1.length)) l;have:=hl.1;show(l.filter _).length≤_;omega
 have hgr:dP wc (fun _=>False) ((if(lo !=0)=true then[.func (.func 124) #[.agg #[.bool fo,.bool st,.bool ph,.slice aS stops.length cS,.slice aY af.length cY,.int .i64 lo,.int .i64 hi]] #[]]else[])++ [.func (.func 125) #[] #[],.func (.func 126) #[] #[]]) (kE 65 262144) (optG (lo !=0) (fD lo hi []) (iC wK (iC Bo zR))) :=by refine AJ Tryz.call124 (fun _ W v l h1 h2 h3=>RH fo st ph _ _ lo hi (fun W hW=>hz.tabs.below (hall W hW)) W v l h1 h2 (h3.sz (by omega) (by omega))) (fun l hl _=> ?_) hlast (fun _=>hlast.weak fun l hl=>⟨by have:=hl.1;omega,hl.2⟩);have h1:=G9 lo hi 0 l [] ⟨by simp,fun x hx=>by simp at hx⟩;exact⟨by have:=h1.1;have:=hl.1;omega,h1.2⟩
 have hph:dP wc (fun _=>False) ((if ph=true then[.func (.func 135) #[] #[.pointer (some ⟨B2,0,none⟩)]]else[])++((if(lo !=0)=true then[.func (.func 124) #[.agg #[.bool fo,.bool st,.bool ph,.slice aS stops.length cS,.slice aY af.length cY,.int .i64 lo,.int .i64 hi]] #[]]else[])++ [.func (.func 125) #[] #[],.func (.func 126) #[] #[]])) (kE 65 262144) (optG ph (qI (bQ true)) (optG (lo !=0) (fD lo hi []) (iC wK (iC Bo zR)))) :=by refine AJ Tryz.call135 (fun h W v l h1 h2 h3=>DW 123 (bQ true) (fun t=>t.length≤262144) (hB2 h) (fun h=>h) Tryz.call123 (fun W' t hW ht=>I1 t W' (by omega) (hz.tabs.below (hall W' hW))) W v l h1 h2 ⟨by have:=h3.1;omega,fun k hk=>h3.at k hk⟩) (fun l hl _=>Lt _ (fun x hx=>EF true x _ (by omega) hx) _ l hl) hgr (fun _=>hgr)
 have hst:dP wc (fun _=>False) ((if st=true then[.func (.func 135) #[] #[.pointer (some ⟨B1,0,none⟩)]]else[])++((if ph=true then[.func (.func 135) #[] #[.pointer (some ⟨B2,0,none⟩)]]else[])++((if(lo !=0)=true then[.func (.func 124) #[.agg #[.bool fo,.bool st,.bool ph,.slice aS stops.length cS,.slice aY af.length cY,.int .i64 lo,.int .i64 hi]] #[]]else[])++ [.func (.func 125) #[] #[],.func (.func 126) #[] #[]]))) (kE 65 262144) (optG st (qI gU) (optG ph (qI (bQ true)) (optG (lo !=0) (fD lo hi []) (iC wK (iC Bo zR))))) :=by refine AJ Tryz.call135 (fun h W v l h1 h2 h3=>DW 122 gU (fun t=>t.length≤262144) (hB1 h) (fun h=>h) Tryz.call122 (fun W' t hW ht=>by have h4:=KT (bs t) W' (by rw[aK];omega);rw[show ai (bs t)=t from bH t]at h4;exact h4) W v l h1 h2 ⟨by have:=h3.1;omega,fun k hk=>h3.at k hk⟩) (fun l hl _=>Lt _ (fun x hx=>Nat.le_trans (MB x) hx) _ l hl) hph (fun _=>hph)
 exact dP.cons _ _ _ _ _ (kE 65 262144) (Xz af) _ Tryz.call121 (fun W v l h1 h2 h3=>X3 fo st ph aS aY cS cY stops.length lo hi af (hz.syn.below hb) (Or.inr fun _ _ _ h=>h) hz.nY hz.zY W v l h1 h2 (by have:=h3.1;omega)) (fun l hl _=>O8 af hz.nY hz.zY l hl) hst
def sj(fo st ph:Bool)(aS aY:Option Addr)(cS cY nS nY:Nat)(lo hi:Int)(B:Nat) :List Value:=(if fo=true then[.func (.func 135) #[] #[.pointer (some ⟨B,0,none⟩)]]else[])++ [.func (.func 120) #[.agg #[.bool fo,.bool st,.bool ph,.slice aS nS cS,.slice aY nY cY,.int .i64 lo,.int .i64 hi]] #[]]
theorem Jq(fo st ph:Bool)(aS aY:Option Addr)(cS cY nS nY:Nat)(lo hi:Int)(w:World) :Calls Tryz.prog 101 #[.agg #[.bool fo,.bool st,.bool ph,.slice aS nS cS,.slice aY nY cY,.int .i64 lo,.int .i64 hi]] w fun e w'=>∃b B,e= .returned (.slice (some ⟨b,0,none⟩) (sj fo st ph aS aY cS cY nS nY lo hi B).length (sj fo st ph aS aY cS cY nS nY lo hi B).length)∧w.heap.size≤b∧w'.heap[b]?=some (.cells (sj fo st ph aS aY cS cY nS nY lo hi B).toArray 149)∧(fo=true→w'.heap[B]?=some (.cells #[.func (.func 119) #[] #[]] 120)∧w.heap.size≤B)∧Below w.heap.size w w':=by
 have HB:Hid (Below w.heap.size w (w.alloc (.cells #[.bool fo,.bool st,.bool ph,.slice aS nS cS,.slice aY nY cY,.int .i64 lo,.int .i64 hi] 73))) :=(Below.refl _ _).alloc (Nat.le_refl _) _;have hblk:(w.alloc (.cells #[.bool fo,.bool st,.bool ph,.slice aS nS cS,.slice aY nY cY,.int .i64 lo,.int .i64 hi] 73)).heap[w.heap.size]?=some (.cells #[.bool fo,.bool st,.bool ph,.slice aS nS cS,.slice aY nY cY,.int .i64 lo,.int .i64 hi] 73) :=heap_alloc_new _ _;have fe:=aa hblk;clear hblk;have hs1:(w.alloc (.cells #[.bool fo,.bool st,.bool ph,.slice aS nS cS,.slice aY nY cY,.int .i64 lo,.int .i64 hi] 73)).heap.size=w.heap.size+1:=by simp
 cases fo with
 |false=>go_enter Tryz.func101,Tryz.ntmps101;go_wp2_with fail;go_returns;refine⟨w.heap.size+1,0,rfl,by omega,?_,(fun h=>by cases h),HB.out.alloc (by omega) _⟩;rw[←hs1];exact heap_alloc_new _ _
 |true=>
  go_enter Tryz.func101,Tryz.ntmps101;go_upto_region 2 with fail;generalize w.alloc (.cells #[.bool true,.bool st,.bool ph,.slice aS nS cS,.slice aY nY cY,.int .i64 lo,.int .i64 hi] 73)=wa at*;have q0:wa.cell? ⟨w.heap.size,0,none⟩=some (.bool true) :=ah fe.out 0;have q1:wa.cell? ⟨w.heap.size,1,none⟩=some (.bool st) :=ah fe.out 1;have q2:wa.cell? ⟨w.heap.size,2,none⟩=some (.bool ph) :=ah fe.out 2;have q3:wa.cell? ⟨w.heap.size,3,none⟩=some (.slice aS nS cS) :=ah fe.out 3;have q4:wa.cell? ⟨w.heap.size,4,none⟩=some (.slice aY nY cY) :=ah fe.out 4;have q5:wa.cell? ⟨w.heap.size,5,none⟩=some (.int .i64 lo) :=ah fe.out 5;have q6:wa.cell? ⟨w.heap.size,6,none⟩=some (.int .i64 hi) :=ah fe.out 6;generalize hB:w.heap.size=B0 at*;go_region_with(go_at_call 118;refine(wF 119 _).mono ?_;rintro e w2⟨rfl,hw2⟩;obtain rfl:=hw2.symm);all_goals
   go_wp2_with fail;go_returns;have hs2:(wa.alloc (.cells #[.func (.func 119) #[] #[]] 120)).heap.size=B0+1+1:=by simp[hs1]
   refine⟨B0+1+1,B0+1,rfl,by omega,?_,fun _=>⟨?_,by omega⟩,?_⟩;·have h3:=heap_alloc_new (wa.alloc (.cells #[.func (.func 119) #[] #[]] 120)) (.cells (sj true st ph aS aY cS cY nS nY lo hi (B0+1)).toArray 149);rw[hs2]at h3;exact h3
   ·have h4:=heap_alloc_new wa (.cells #[.func (.func 119) #[] #[]] 120);rw[hs1]at h4;exact(Below.heap_alloc _ _ _ (by rw[hs2];omega)).trans h4
   ·rw[hB];exact((HB.out.alloc (by omega) _).alloc (by rw[hs2];omega) _).drew
theorem Tryz.infoStep:(Tryz.prog.info? 149).map (fun i=>(i.zero,i.size,i.bytes))=some (some .nilFunc,1,8) :=by kernel_rfl
structure TI(w W:World)(az:Array Value)(v:Value)(L:List Value)(s p:Bool)(B1 B2:Nat) :Prop where
 own:W.ownsRow (w.heap.size+1) 149 1 v L.length L
 bel:Below w.heap.size w W
 box:W.heap[w.heap.size]?=some (.cells az 73)
 st:s=true→W.heap[B1]?=some (.cells #[.func (.func 122) #[] #[]] 120)∧v.ownBlock≠some B1
 ph:p=true→W.heap[B2]?=some (.cells #[.func (.func 123) #[] #[]] 120)∧v.ownBlock≠some B2
theorem TI.size {w W:World} {az:Array Value} {v:Value} {L:List Value} {s p:Bool} {B1 B2:Nat}(h:TI w W az v L s p B1 B2) :w.heap.size<W.heap.size:=(Array.getElem?_eq_some_iff.1 h.box).1
theorem TI.alloc {w W:World} {az:Array Value} {v:Value} {L:List Value} {s p:Bool} {B1 B2:Nat}(h:TI w W az v L s p B1 B2)(o:Obj) :TI w (W.alloc o) az v L s p B1 B2:=by
 have hz:=h.size;refine⟨h.own.alloc _,h.bel.alloc (by omega) _,(Below.heap_alloc _ _ _ hz).trans h.box,fun e=> ?_,fun e=> ?_⟩;·obtain⟨h1,h2⟩ :=h.st e;exact⟨(Below.heap_alloc _ _ _ (Array.getElem?_eq_some_iff.1 h1).1).trans h1,h2⟩
 ·obtain⟨h1,h2⟩ :=h.ph e;exact⟨(Below.heap_alloc _ _ _ (Array.getElem?_eq_some_iff.1 h1).1).trans h1,h2⟩
theorem TI.blk {w W:World} {az:Array Value} {v:Value} {L:List Value} {s p:Bool} {B1 B2:Nat}(h:TI w W az v L s p B1 B2) :v.ownBlock≠some W.heap.size:=fun e=>by have:=FJ h.own _ e;omega
theorem TI.afo {w W:World} {az:Array Value} {v:Value} {L:List Value} {p:Bool} {B1 B2:Nat}(h:TI w W az v L false p B1 B2) :TI w (W.alloc (.cells #[.func (.func 122) #[] #[]] 120)) az v L true p W.heap.size B2:=by have h1:=h.alloc (.cells #[.func (.func 122) #[] #[]] 120);exact⟨h1.own,h1.bel,h1.box,fun _=>⟨heap_alloc_new _ _,h.blk⟩,h1.ph⟩
theorem TI.ags {w W:World} {az:Array Value} {v:Value} {L:List Value} {s:Bool} {B1 B2:Nat}(h:TI w W az v L s false B1 B2) :TI w (W.alloc (.cells #[.func (.func 123) #[] #[]] 120)) az v L s true B1 W.heap.size:=by have h1:=h.alloc (.cells #[.func (.func 123) #[] #[]] 120);exact⟨h1.own,h1.bel,h1.box,h1.st,fun _=>⟨heap_alloc_new _ _,h.blk⟩⟩
theorem TI.grow {w W w':World} {az:Array Value} {v v':Value} {L L':List Value} {s p:Bool} {B1 B2:Nat}(h:TI w W az v L s p B1 B2)(ho:w'.ownsRow (w.heap.size+1) 149 1 v' L'.length L')(hg:W.grownBy w' v.ownBlock)(hat:v'.ownBlock=v.ownBlock∨v'.ownBlock=some W.heap.size) :TI w w' az v' L' s p B1 B2:=by
 have hz:=h.size;have far: ∀b,b<W.heap.size→v.ownBlock≠some b→v'.ownBlock≠some b:=fun b hb hn e=>by
  rcases hat with h'|h';·exact hn (h'.symm.trans e)
  ·have:=Option.some.inj (h'.symm.trans e);omega
 refine⟨ho,h.bel.grown hg (by omega) (fun k e=>by have:=iM h.own k e;omega),(hg.block _ hz (fun e=>by have:=iM h.own _ e.symm;omega)).trans h.box,fun e=> ?_,fun e=> ?_⟩;·obtain⟨h1,h2⟩ :=h.st e;have hl:=(Array.getElem?_eq_some_iff.1 h1).1;exact⟨(hg.block _ hl (fun e=>h2 e.symm)).trans h1,far _ hl h2⟩
 ·obtain⟨h1,h2⟩ :=h.ph e;have hl:=(Array.getElem?_eq_some_iff.1 h1).1;exact⟨(hg.block _ hl (fun e=>h2 e.symm)).trans h1,far _ hl h2⟩
theorem Ji (fo st ph : Bool) (aS aY : Option Addr) (cS cY nS nY : Nat) (lo hi : Int) (w : World) :
    Calls Tryz.prog 102 #[.agg #[.bool fo, .bool st, .bool ph, .slice aS nS cS, .slice aY nY cY, .int .i64 lo, .int .i64 hi]] w fun e w' => ∃ v B1 B2, e = .returned v ∧ w'.ownsRow w.heap.size 149 1 v (oN fo st ph aS aY cS cY nS nY lo hi B1 B2).length (oN fo st ph aS aY cS cY nS nY lo hi B1 B2) ∧ (st = true → w'.heap[B1]? = some (.cells #[.func (.func 122) #[] #[]] 120)) ∧ (ph = true → w'.heap[B2]? = some (.cells #[.func (.func 123) #[] #[]] 120)) ∧ Below w.heap.size w w' := by
  obtain ⟨i0, hi0, hz0, hz1, hz2⟩ := info_parts Tryz.infoStep
  have HB : Hid (Below w.heap.size w (w.alloc (.cells #[.bool fo, .bool st, .bool ph, .slice aS nS cS, .slice aY nY cY, .int .i64 lo, .int .i64 hi] 73))) := (Below.refl _ _).alloc (Nat.le_refl _) _
  have hblk : (w.alloc (.cells #[.bool fo, .bool st, .bool ph, .slice aS nS cS, .slice aY nY cY, .int .i64 lo, .int .i64 hi] 73)).heap[w.heap.size]? = some (.cells #[.bool fo, .bool st, .bool ph, .slice aS nS cS, .slice aY nY cY, .int .i64 lo, .int .i64 hi] 73) := heap_alloc_new _ _
  have fe := aa hblk
  clear hblk
  have hs1 : (w.alloc (.cells #[.bool fo, .bool st, .bool ph, .slice aS nS cS, .slice aY nY cY, .int .i64 lo, .int .i64 hi] 73)).heap.size = w.heap.size + 1 := by simp
  go_enter Tryz.func102, Tryz.ntmps102
  go_upto_region 1 with fail
  generalize w.alloc (.cells #[.bool fo, .bool st, .bool ph, .slice aS nS cS, .slice aY nY cY, .int .i64 lo, .int .i64 hi] 73) = wa at *
  have q0 : wa.cell? ⟨w.heap.size, 0, none⟩ = some (.bool fo) := ah fe.out 0
  have q1 : wa.cell? ⟨w.heap.size, 1, none⟩ = some (.bool st) := ah fe.out 1
  have q2 : wa.cell? ⟨w.heap.size, 2, none⟩ = some (.bool ph) := ah fe.out 2
  have q3 : wa.cell? ⟨w.heap.size, 3, none⟩ = some (.slice aS nS cS) := ah fe.out 3
  have q4 : wa.cell? ⟨w.heap.size, 4, none⟩ = some (.slice aY nY cY) := ah fe.out 4
  have q5 : wa.cell? ⟨w.heap.size, 5, none⟩ = some (.int .i64 lo) := ah fe.out 5
  have q6 : wa.cell? ⟨w.heap.size, 6, none⟩ = some (.int .i64 hi) := ah fe.out 6
  go_upto_if 8 with fail
  have HT0 : Hid (TI w (wa.alloc (.cells #[.func (.func 121) #[.agg #[.bool fo, .bool st, .bool ph, .slice aS nS cS, .slice aY nY cY, .int .i64 lo, .int .i64 hi]] #[]] 149)) #[.bool fo, .bool st, .bool ph, .slice aS nS cS, .slice aY nY cY, .int .i64 lo, .int .i64 hi] (.slice (some ⟨w.heap.size + 1, 0, none⟩) 1 1) [.func (.func 121) #[.agg #[.bool fo, .bool st, .bool ph, .slice aS nS cS, .slice aY nY cY, .int .i64 lo, .int .i64 hi]] #[]] false false 0 0) := by
    have h1 := World.ownsRow_lit (base := w.heap.size + 1) (e := 149) (size := 1) wa #[.func (.func 121) #[.agg #[.bool fo, .bool st, .bool ph, .slice aS nS cS, .slice aY nY cY, .int .i64 lo, .int .i64 hi]] #[]] 1 (by omega) (by unfold maxLen; omega) (by simp)
    rw [hs1] at h1
    exact ⟨h1, HB.out.alloc (by omega) _, (Below.heap_alloc _ _ _ (by omega)).trans fe.out, (fun e => by cases e), (fun e => by cases e)⟩
  clear q0 q1 q2 q3 q4 q5 q6
  generalize wa.alloc (.cells #[.func (.func 121) #[.agg #[.bool fo, .bool st, .bool ph, .slice aS nS cS, .slice aY nY cY, .int .i64 lo, .int .i64 hi]] #[]] 149) = w1 at *
  go_cut [3] (fun c wy => ∃ B1, TI w wy #[.bool fo, .bool st, .bool ph, .slice aS nS cS, .slice aY nY cY, .int .i64 lo, .int .i64 hi] c ([(.func (.func 121) #[.agg #[.bool fo, .bool st, .bool ph, .slice aS nS cS, .slice aY nY cY, .int .i64 lo, .int .i64 hi]] #[])] ++ (if st = true then [(.func (.func 135) #[] #[.pointer (some ⟨B1, 0, none⟩)])] else [])) st false B1 0)
  case first =>
    cases st with
    | false =>
      go_wp2_with fail
      go_meet
      case rel => exact ⟨0, HT0.out⟩
    | true =>
      have HT1 := aa HT0.out.afo
      have HT2 := aa (HT1.out.alloc (.cells #[(.func (.func 135) #[] #[.pointer (some ⟨w1.heap.size, 0, none⟩)])] 149))
      have hz9 := HT0.out.size
      go_wp2_with (first | (go_at_call 118; refine (wF 122 _).mono ?_; rintro e w2 ⟨rfl, hw2⟩; obtain rfl := hw2.symm) | (at_builtin; refine wpList_append_own_at _ rfl _ _ 133 rfl (w.heap.size + 1) 149 i0 .nilFunc 1 8 Tryz.underlying133 hi0 hz0 hz1 hz2 rfl (by decide) _ _ _ rfl HT2.out.own ⟨w1.heap.size + 1, 0, none⟩ 1 1 [(.func (.func 135) #[] #[.pointer (some ⟨w1.heap.size, 0, none⟩)])] rfl rfl ?c1 ?c2 ?c3 ?c4 ?c5 ?_))
      case c1 =>
        intro q u hq
        match q, hq with
        | 0, hq => simp at hq; subst hq; simp [Addr.add]
        | q + 1, hq => simp at hq
      case c2 =>
        intro u hu
        simp at hu
        subst hu; rfl
      case c3 => unfold maxLen; (try simp only [List.length_cons, List.length_nil]); omega
      case c4 => (try simp only [List.length_cons, List.length_nil]); omega
      case c5 => simp; omega
      intro v' w3 hown' hgrow hne hat
      have HT3 := aa (HT2.out.grow (L' := [(.func (.func 121) #[.agg #[.bool fo, .bool true, .bool ph, .slice aS nS cS, .slice aY nY cY, .int .i64 lo, .int .i64 hi]] #[]), (.func (.func 135) #[] #[.pointer (some ⟨w1.heap.size, 0, none⟩)])]) hown' hgrow (hat.imp id (fun h => h.trans (by simp))))
      clear hown' hgrow hne hat
      go_wp2_with fail
      go_meet
      case rel => exact ⟨_, HT3.out⟩
  case rest =>
    obtain ⟨B1, hT⟩ := hcut
    have hL1 : ([(.func (.func 121) #[.agg #[.bool fo, .bool st, .bool ph, .slice aS nS cS, .slice aY nY cY, .int .i64 lo, .int .i64 hi]] #[])] ++ (if st = true then [(.func (.func 135) #[] #[.pointer (some ⟨B1, 0, none⟩)])] else []) : List Value).length ≤ 2 := by cases st <;> simp
    obtain ⟨L1, Xt⟩ : ∃ L1, ([(.func (.func 121) #[.agg #[.bool fo, .bool st, .bool ph, .slice aS nS cS, .slice aY nY cY, .int .i64 lo, .int .i64 hi]] #[])] ++ (if st = true then [(.func (.func 135) #[] #[.pointer (some ⟨B1, 0, none⟩)])] else []) : List Value) = L1 := ⟨_, rfl⟩
    rw [Xt] at hT hL1
    have HL1 := aa Xt
    have HT1 := aa hT
    have q2 := ah hT.box 2
    simp at q2
    have hz1' := hT.size
    clear Xt hT HT0
    go_upto_if 14 with fail
    clear q2
    go_cut [3] (fun c wy => ∃ B2, TI w wy #[.bool fo, .bool st, .bool ph, .slice aS nS cS, .slice aY nY cY, .int .i64 lo, .int .i64 hi] c (L1 ++ (if ph = true then [(.func (.func 135) #[] #[.pointer (some ⟨B2, 0, none⟩)])] else [])) st ph B1 B2)
    case first =>
      cases ph with
      | false =>
        go_wp2_with fail
        go_meet
        case rel => exact ⟨0, by simpa using HT1.out⟩
      | true =>
        have HT2 := aa HT1.out.ags
        have HT3 := aa (HT2.out.alloc (.cells #[(.func (.func 135) #[] #[.pointer (some ⟨wc.heap.size, 0, none⟩)])] 149))
        go_wp2_with (first | (go_at_call 118; refine (wF 123 _).mono ?_; rintro e w2 ⟨rfl, hw2⟩; obtain rfl := hw2.symm) | (at_builtin; refine wpList_append_own_at _ rfl _ _ 133 rfl (w.heap.size + 1) 149 i0 .nilFunc 1 8 Tryz.underlying133 hi0 hz0 hz1 hz2 rfl (by decide) _ _ _ rfl HT3.out.own ⟨wc.heap.size + 1, 0, none⟩ 1 1 [(.func (.func 135) #[] #[.pointer (some ⟨wc.heap.size, 0, none⟩)])] rfl rfl ?c1 ?c2 ?c3 ?c4 ?c5 ?_))
        case c1 =>
          intro q u hq
          match q, hq with
          | 0, hq => simp at hq; subst hq; simp [Addr.add]
          | q + 1, hq => simp at hq
        case c2 =>
          intro u hu
          simp at hu
          subst hu; rfl
        case c3 => unfold maxLen; (try simp only [List.length_cons, List.length_nil]); omega
        case c4 => (try simp only [List.length_cons, List.length_nil]); omega
        case c5 => simp; omega
        intro v' w3 hown' hgrow hne hat
        have NL := aa (HT3.out.grow (L' := L1 ++ [(.func (.func 135) #[] #[.pointer (some ⟨wc.heap.size, 0, none⟩)])]) (by rw [List.length_append]; exact hown') hgrow (hat.imp id (fun h => h.trans (by simp))))
        clear hown' hgrow hne hat
        go_wp2_with fail
        go_meet
        case rel => exact ⟨_, NL.out⟩
    case rest =>
      obtain ⟨B2, hT⟩ := hcut
      have hL2 : (L1 ++ (if ph = true then [(.func (.func 135) #[] #[.pointer (some ⟨B2, 0, none⟩)])] else []) : List Value).length ≤ 3 := by rw [List.length_append]; cases ph <;> simp <;> omega
      obtain ⟨L2, VM⟩ : ∃ L2, (L1 ++ (if ph = true then [(.func (.func 135) #[] #[.pointer (some ⟨B2, 0, none⟩)])] else []) : List Value) = L2 := ⟨_, rfl⟩
      rw [VM] at hT hL2
      have HL2 := aa VM
      have HT2 := aa hT
      have q5 := ah hT.box 5
      simp at q5
      have hz2' := hT.size
      clear VM hT HT1
      go_upto_if 21 with fail
      clear q5
      go_cut [3] (fun c wy => TI w wy #[.bool fo, .bool st, .bool ph, .slice aS nS cS, .slice aY nY cY, .int .i64 lo, .int .i64 hi] c (L2 ++ (if (lo != 0) = true then [(.func (.func 124) #[.agg #[.bool fo, .bool st, .bool ph, .slice aS nS cS, .slice aY nY cY, .int .i64 lo, .int .i64 hi]] #[])] else [])) st ph B1 B2)
      case first =>
        cases hlo : (lo != 0)
        · go_wp2_with fail
          go_meet
          case rel => rw [if_neg (by rw [hlo]; simp), List.append_nil]; exact HT2.out
        · have q0 := ah HT2.out.box 0
          have q1 := ah HT2.out.box 1
          have q2 := ah HT2.out.box 2
          have q3 := ah HT2.out.box 3
          have q4 := ah HT2.out.box 4
          have q5 := ah HT2.out.box 5
          have q6 := ah HT2.out.box 6
          simp at q0 q1 q2 q3 q4 q5 q6
          have HT3 := aa (HT2.out.alloc (.cells #[(.func (.func 124) #[.agg #[.bool fo, .bool st, .bool ph, .slice aS nS cS, .slice aY nY cY, .int .i64 lo, .int .i64 hi]] #[])] 149))
          go_wp2_with (at_builtin; refine wpList_append_own_at _ rfl _ _ 133 rfl (w.heap.size + 1) 149 i0 .nilFunc 1 8 Tryz.underlying133 hi0 hz0 hz1 hz2 rfl (by decide) _ _ _ rfl HT3.out.own ⟨wc.heap.size, 0, none⟩ 1 1 [(.func (.func 124) #[.agg #[.bool fo, .bool st, .bool ph, .slice aS nS cS, .slice aY nY cY, .int .i64 lo, .int .i64 hi]] #[])] rfl rfl ?c1 ?c2 ?c3 ?c4 ?c5 ?_)
          case c1 =>
            intro q u hq
            match q, hq with
            | 0, hq => simp at hq; subst hq; simp [Addr.add]
            | q + 1, hq => simp at hq
          case c2 =>
            intro u hu
            simp at hu
            subst hu; rfl
          case c3 => unfold maxLen; (try simp only [List.length_cons, List.length_nil]); omega
          case c4 => (try simp only [List.length_cons, List.length_nil]); omega
          case c5 => simp; omega
          intro v' w3 hown' hgrow hne hat
          have NL := aa (HT3.out.grow (L' := L2 ++ [(.func (.func 124) #[.agg #[.bool fo, .bool st, .bool ph, .slice aS nS cS, .slice aY nY cY, .int .i64 lo, .int .i64 hi]] #[])]) (by rw [List.length_append]; exact hown') hgrow (hat.imp id (fun h => h.trans (by simp))))
          clear hown' hgrow hne hat
          go_wp2_with fail
          go_meet
          case rel => rw [if_pos hlo]; exact NL.out
      case rest =>
        have hL3 : (L2 ++ (if (lo != 0) = true then [(.func (.func 124) #[.agg #[.bool fo, .bool st, .bool ph, .slice aS nS cS, .slice aY nY cY, .int .i64 lo, .int .i64 hi]] #[])] else []) : List Value).length ≤ 4 := by rw [List.length_append]; cases (lo != 0) <;> simp <;> omega
        obtain ⟨L3, VJ⟩ : ∃ L3, (L2 ++ (if (lo != 0) = true then [(.func (.func 124) #[.agg #[.bool fo, .bool st, .bool ph, .slice aS nS cS, .slice aY nY cY, .int .i64 lo, .int .i64 hi]] #[])] else []) : List Value) = L3 := ⟨_, rfl⟩
        rw [VJ] at hcut hL3
        have ED := aa VJ
        have HT3 := aa hcut
        have NL := aa (hcut.alloc (.cells #[.func (.func 125) #[] #[], .func (.func 126) #[] #[]] 149))
        have aiI := hcut.size
        clear VJ hcut HT2
        go_wp2_with (at_builtin; refine wpList_append_own_at _ rfl _ _ 133 rfl (w.heap.size + 1) 149 i0 .nilFunc 1 8 Tryz.underlying133 hi0 hz0 hz1 hz2 rfl (by decide) _ _ _ rfl NL.out.own ⟨wc.heap.size, 0, none⟩ 2 2 [.func (.func 125) #[] #[], .func (.func 126) #[] #[]] rfl rfl ?c1 ?c2 ?c3 ?c4 ?c5 ?_)
        case c1 =>
          intro q u hq
          match q, hq with
          | 0, hq => simp at hq; subst hq; simp [Addr.add]
          | 1, hq => simp at hq; subst hq; simp [Addr.add]
          | q + 2, hq => simp at hq
        case c2 =>
          intro u hu
          simp at hu
          rcases hu with rfl | rfl <;> rfl
        case c3 => unfold maxLen; (try simp only [List.length_cons, List.length_nil]); omega
        case c4 => (try simp only [List.length_cons, List.length_nil]); omega
        case c5 => simp; omega
        intro v' w3 hown' hgrow hne hat
        have Iy := aa (NL.out.grow (L' := L3 ++ [.func (.func 125) #[] #[], .func (.func 126) #[] #[]]) (by rw [List.length_append]; exact hown') hgrow (hat.imp id (fun h => h.trans (by simp))))
        clear hown' hgrow hne hat
        go_wp2_with fail
        go_returns
        have HE : oN fo st ph aS aY cS cY nS nY lo hi B1 B2 = L3 ++ [.func (.func 125) #[] #[], .func (.func 126) #[] #[]] := by
          rw [← ED.out, ← HL2.out, ← HL1.out, oN]
          simp only [List.append_assoc]
        refine ⟨v', B1, B2, rfl, ?_, fun e => (Iy.out.st e).1, fun e => (Iy.out.ph e).1, Iy.out.bel⟩
        rw [HE]
        exact fQ Iy.out.own (by omega)
def jZ(Y:Nat→Prop)(W:World)(a:Option Addr)(l:List Tk) :Prop:=jr W a l∧(l= []∨∀b off,a=some ⟨b,off,none⟩→Y b)
theorem jZ.but {Y Y' X:Nat→Prop} {W W':World} {a:Option Addr} {l:List Tk}(h:jZ Y W a l)(hb:But X W W')(hx: ∀b,b<W.heap.size→Y b→¬X b∧Y' b) :jZ Y' W' a l:=by
 obtain⟨h1,h2⟩ :=h;rcases h2 with h2|h2;·exact⟨Or.inl h2,Or.inl h2⟩
 rcases h1 with h1| ⟨b,off,h5,h6,h7⟩;·exact⟨Or.inl h1,Or.inl h1⟩
 ·have hh: ∀b' off',a=some ⟨b',off',none⟩→¬X b'∧Y' b':=fun b' off' e=>by have hy:=h2 b' off' e;rw[e]at h5;cases h5;exact hx _ h6 hy
  exact⟨jr.but (Or.inr ⟨b,off,h5,h6,h7⟩) hb (fun b' off' e=>(hh b' off' e).1),Or.inr fun b' off' e=>(hh b' off' e).2⟩
def kR(T:List UInt8→List (List UInt8) ×Int)(W:World)(mb:Nat)(Y:Nat→Prop)(L:List (List UInt8×Value)) :Prop:=SMap W mb L∧∀x∈L,(T x.1).2=0∧∃a c k,x.2= .slice a (T x.1).1.length c∧jZ Y W a (aG k (T x.1).1)
theorem kR.but {T:List UInt8→List (List UInt8) ×Int} {W W':World} {mb:Nat} {Y Y':Nat→Prop} {L:List (List UInt8×Value)} {X:Nat→Prop}(h:kR T W mb Y L)(hb:But X W W')(hm: ¬X mb)(hx: ∀b,b<W.heap.size→Y b→¬X b∧Y' b) :kR T W' mb Y' L:=by refine⟨h.1.keep (hb.block mb h.1.lt hm),fun x hx'=> ?_⟩;obtain⟨h1,a,c,k,h2,h3⟩ :=h.2 x hx';exact⟨h1,a,c,k,h2,h3.but hb hx⟩
theorem kR.put {T:List UInt8→List (List UInt8) ×Int} {W W':World} {mb:Nat} {Y:Nat→Prop} {L:List (List UInt8×Value)} {t:List UInt8} {a:Option Addr} {c:Nat} {k:Tk}(h:kR T W mb Y L)(hY: ∀b,Y b→b≠mb)(hT:(T t).2=0)(hr:jZ Y W a (aG k (T t).1))(hs:SMap W' mb (L++ [(t,.slice a (T t).1.length c)]))(hg:W.grownBy W' (some mb)) :kR T W' mb Y (L++ [(t,.slice a (T t).1.length c)])∧jZ Y W' a (aG k (T t).1) :=by
 have hb:But (fun b=>b=mb) W W':=⟨hg.os,hg.tape,hg.output,hg.size,fun b hb hn=>hg.block b hb (fun e=>hn (Option.some.inj e))⟩;have hx: ∀b,b<W.heap.size→Y b→¬(fun b=>b=mb) b∧Y b:=fun b _ hy=>⟨hY b hy,hy⟩;refine⟨⟨hs,fun x hx'=> ?_⟩,hr.but hb hx⟩;rcases List.mem_append.1 hx' with h1|h1;·obtain⟨h2,a',c',k',h3,h4⟩ :=h.2 x h1;exact⟨h2,a',c',k',h3,h4.but hb hx⟩
 ·simp only[List.mem_singleton]at h1;subst h1;exact⟨hT,a,c,k,rfl,hr.but hb hx⟩
structure Lv(w0 wT:World)(fo st ph:Bool)(aS aY:Option Addr)(cS cY:Nat)(stops:List (List UInt8))(af:List (List UInt8×List UInt8))(lo hi:Int)(B1 B2:Nat)(aF:Option Addr) :Prop where
 az:P7 w0 aS aY stops af lo hi
 bel:Below w0.heap.size w0 wT
 row:Mo wT (fun _=>False) aF (oN fo st ph aS aY cS cY stops.length af.length lo hi B1 B2)
 b1:st=true→wT.heap[B1]?=some (.cells #[.func (.func 122) #[] #[]] 120)
 b2:ph=true→wT.heap[B2]?=some (.cells #[.func (.func 123) #[] #[]] 120)
theorem Lv.below {w0 wT W:World} {fo st ph:Bool} {aS aY:Option Addr} {cS cY:Nat} {stops:List (List UInt8)} {af:List (List UInt8×List UInt8)} {lo hi:Int} {B1 B2:Nat} {aF:Option Addr}(h:Lv w0 wT fo st ph aS aY cS cY stops af lo hi B1 B2 aF)(hb:Below wT.heap.size wT W) :Lv w0 W fo st ph aS aY cS cY stops af lo hi B1 B2 aF:=by
 refine⟨h.az,h.bel.trans (hb.mono h.bel.size),?_,fun e=>aD (h.b1 e) hb,fun e=>aD (h.b2 e) hb⟩;rcases h.row with h1| ⟨b,h1,h2,h3,h4⟩;·exact Or.inl h1
 ·exact Or.inr ⟨b,h1,Nat.lt_of_lt_of_le h2 hb.size,h3,fun k hk=>(hb.cell (p:=⟨b,k,none⟩) h2).trans (h4 k hk)⟩
theorem UX(fo st ph:Bool)(aS aY:Option Addr)(cS cY nS nY:Nat)(lo hi:Int)(B1 B2:Nat) :(oN fo st ph aS aY cS cY nS nY lo hi B1 B2).length≤6:=by unfold oN;cases st<;>cases ph<;>cases(lo !=0)<;>simp
def pz(T:List UInt8→List (List UInt8) ×Int)(t:List UInt8)(W:World)(mb:Nat)(Y:Nat→Prop)(e:Ending)(w':World) :Prop:=But (fun b=>b=mb) W w'∧((∃a c k L',(T t).2=0∧e= .returned (.tuple #[.slice a (T t).1.length c,.int .i64 0])∧jZ Y w' a (aG k (T t).1)∧kR T w' mb Y L')∨(∃v,(T t).2≠0∧e= .returned (.tuple #[v,.int .i64 (T t).2])))
theorem MQ {w0:World} {fo st ph:Bool} {aS aY:Option Addr} {cS cY:Nat} {stops:List (List UInt8)} {af:List (List UInt8×List UInt8)} {lo hi:Int} {B1 B2:Nat} {aF:Option Addr}(cF:Nat)(hlo:lo=0∨0<lo)(mb:Nat)(Y:Nat→Prop)(L:List (List UInt8×Value))(word:Tk)(W:World)(hch:Lv w0 W fo st ph aS aY cS cY stops af lo hi B1 B2 aF)(hY: ∀b,Y b→b≠mb)(hYn: ∀b,W.heap.size≤b→Y b)(hK:kR (iN st ph af lo hi) W mb Y L)(hsz:word.1.length≤262144) :Calls Tryz.prog 103 #[.agg #[.slice aF (oN fo st ph aS aY cS cY stops.length af.length lo hi B1 B2).length cF,.map (some mb)],Gf word] W (pz (iN st ph af lo hi) word.1 W mb Y) :=by
 obtain⟨tx,p0,p1,p2⟩ :=word;dsimp only at hsz⊢;have HT1:=aa (SX st ph af lo hi hlo (tx,p0,p1,p2));dsimp only at HT1;have Uj:=aa (UX fo st ph aS aY cS cY stops.length af.length lo hi B1 B2);have PN:Hid (∀wc w,Below W.heap.size W wc→But (fun _=>False) wc w→vK wc (fun _=>False) w (.slice (some ⟨wc.heap.size,0,none⟩) 1 1) [(tx,p0,p1,p2)]→Calls Tryz.prog 100 #[.slice aF (oN fo st ph aS aY cS cY stops.length af.length lo hi B1 B2).length cF,.slice (some ⟨wc.heap.size,0,none⟩) 1 1] w fun e w'=>∃v',e= .returned (.tuple #[v',.int .i64 (iN st ph af lo hi tx).2])∧vK wc (fun _=>False) w' v' (aG (tx,p0,p1,p2) (iN st ph af lo hi tx).1)∧But (fun _=>False) wc w') :=by intro wc w h1 h2 h3;have hc:=hch.below h1;have h4:=AU wc (fun _=>False) _ (kE 1 262144) (JE st ph af lo hi) aF cF hc.row (by have:=Uj.out;omega) (QZ hc.az hc.bel fo st ph cS cY B1 B2 hc.b1 hc.b2) (.slice (some ⟨wc.heap.size,0,none⟩) 1 1) [(tx,p0,p1,p2)] w h2 h3 ⟨by simp,fun x hx=>by simp at hx;rw[hx];exact hsz⟩;rw[HT1.out]at h4;exact h4
 have HK:=aa hK;have HY:=aa hY;have HYn:=aa hYn;obtain⟨nF,hnF⟩ : ∃n,(oN fo st ph aS aY cS cY stops.length af.length lo hi B1 B2).length=n:=⟨_,rfl⟩;rw[hnF]at PN⊢;obtain⟨T,hTe⟩ : ∃T,iN st ph af lo hi=T:=⟨_,rfl⟩;rw[hTe]at PN HK⊢;clear hTe hnF hch hY hYn hK HT1 Uj hlo;show Calls Tryz.prog 103 #[.agg #[.slice aF nF cF,.map (some mb)],.agg #[.string (bs tx),.int .i64 p0,.int .i64 p1,.int .i64 p2]] W _;have HKw:Hid (pz T tx W mb Y=fun e w'=>pz T tx W mb Y e w') :=rfl;go_enter Tryz.func103,Tryz.ntmps103;go_upto_region 1 with fail;have HB:Hid (Below W.heap.size W ((W.alloc (.cells #[.slice aF nF cF,.map (some mb)] 137)).alloc (.cells #[.string (bs tx),.int .i64 p0,.int .i64 p1,.int .i64 p2] 46))) :=((Below.refl _ _).alloc (Nat.le_refl _) _).alloc (by simp) _;obtain⟨hx1,hx2⟩ :=gm W (.cells #[.slice aF nF cF,.map (some mb)] 137) (.cells #[.string (bs tx),.int .i64 p0,.int .i64 p1,.int .i64 p2] 46)
 have hsb:((W.alloc (.cells #[.slice aF nF cF,.map (some mb)] 137)).alloc (.cells #[.string (bs tx),.int .i64 p0,.int .i64 p1,.int .i64 p2] 46)).heap.size=W.heap.size+2:=by simp
 generalize(W.alloc (.cells #[.slice aF nF cF,.map (some mb)] 137)).alloc (.cells #[.string (bs tx),.int .i64 p0,.int .i64 p1,.int .i64 p2] 46)=Wb at*;have k0:Wb.cell? ⟨W.heap.size,0,none⟩=some (.slice aF nF cF) :=ah hx1 0;have k1:Wb.cell? ⟨W.heap.size,1,none⟩=some (.map (some mb)) :=ah hx1 1;have t0:Wb.cell? ⟨W.heap.size+1,0,none⟩=some (.string (bs tx)) :=ah hx2 0;have t1:Wb.cell? ⟨W.heap.size+1,1,none⟩=some (.int .i64 p0) :=ah hx2 1;have t2:Wb.cell? ⟨W.heap.size+1,2,none⟩=some (.int .i64 p1) :=ah hx2 2;have t3:Wb.cell? ⟨W.heap.size+1,3,none⟩=some (.int .i64 p2) :=ah hx2 3;have mR:=aa hx1;have iw:=aa hx2;clear hx1 hx2;have YT:Hid (kR T Wb mb Y L) :=HK.out.but (X:=fun _=>False) (But.of_below HB.out) (fun h=>h) (fun b _ hy=>⟨fun h=>h,hy⟩);rcases YT.out.1.look tx (by omega) 135 37 (.slice none 0 0) Tryz.underlying135 Tryz.zeroValue37 with⟨hno,hlk⟩| ⟨j,v,hj,hlk⟩
 ·have fB:=aa hno;clear hno;have Z8:(Wb.alloc (.cells #[.string (bs tx),.int .i64 p0,.int .i64 p1,.int .i64 p2] 46)).ownsRow 0 46 4 (.slice (some ⟨Wb.heap.size,0,none⟩) 1 1) 1 [.string (bs tx),.int .i64 p0,.int .i64 p1,.int .i64 p2] :=World.ownsRow_lit (base:=0) (e:=46) (size:=4) Wb #[.string (bs tx),.int .i64 p0,.int .i64 p1,.int .i64 p2] 1 (Nat.zero_le _) (by unfold maxLen;omega) (by simp);have HR:=aa (PN.out Wb (Wb.alloc (.cells #[.string (bs tx),.int .i64 p0,.int .i64 p1,.int .i64 p2] 46)) HB.out ((But.refl _ _).alloc _) ⟨Z8,fun b e=>Or.inr (by cases e;exact Nat.le_refl _)⟩);rw[hsb]at HR;clear Z8 PN;by_cases hc:(T tx).2=0
  ·rw[hc]at HR;go_upto_region 6 with(go_at_call 100;refine HR.out.mono ?_;rintro e w3⟨v3,rfl,ho3,hb3⟩);have HB3:Hid (Below Wb.heap.size Wb w3) :=hb3.below (Nat.le_refl _) (fun _ _ h=>h);have hz3:=HB3.out.size;have k3:w3.cell? ⟨W.heap.size,1,none⟩=some (.map (some mb)) :=ah (aD mR.out HB3.out) 1;have s0:w3.cell? ⟨W.heap.size+1,0,none⟩=some (.string (bs tx)) :=ah (aD iw.out HB3.out) 0;have Ut:Hid (kR T w3 mb Y L) :=YT.out.but (X:=fun _=>False) hb3 (fun h=>h) (fun b _ hy=>⟨fun h=>h,hy⟩);obtain⟨a3,c3,rfl,hH3,hbb⟩ :=kJ ho3.1;have HH3:Hid (jZ Y w3 a3 (aG (tx,p0,p1,p2) (T tx).1)) :=⟨hH3,Or.inr fun b off e=>HYn.out b (by
    subst e;rcases ho3.2 b rfl with h|h;·exact h.elim
    ·omega)⟩;rw[kK];obtain⟨w4,hput,hs4,hg4⟩ :=Ut.out.1.put tx (by omega) (.slice a3 (T tx).1.length c3) 135 37 Tryz.underlying135 fB.out;have HQ:=aa (Ut.out.put HY.out hc HH3.out hs4 hg4);have HP:Hid (pz T tx W mb Y (.returned (.tuple #[.slice a3 (T tx).1.length c3,.int .i64 0])) w4) :=by refine⟨?_,Or.inl ⟨a3,c3,_,_,hc,rfl,HQ.out.2,HQ.out.1⟩⟩;have h1:But (fun b=>b=mb) W w3:=But.of_below (HB.out.trans (HB3.out.mono HB.out.size));exact h1.trans (Y:=fun b=>b=mb) ⟨hg4.os,hg4.tape,hg4.output,hg4.size,fun b hb hn=>hg4.block b hb (fun e=>hn (Option.some.inj e))⟩ (fun _ _ h=>h) (fun _ _ h=>h)
   clear hs4 hg4 HQ Ut HH3 hH3 hbb ho3 hb3 HR;go_wp2_with fail;go_ret2;exact HP.out
  ·have hcn:((T tx).2==0)=false:=by rw[beq_eq_false_iff_ne];exact hc
   have sK:Hid (∀v w3,But (fun _=>False) Wb w3→pz T tx W mb Y (.returned (.tuple #[v,.int .i64 (T tx).2])) w3) :=fun v w3 h=>⟨(But.of_below HB.out).trans h (fun _ _ h=>h) (fun _ _ h=>h.elim),Or.inr ⟨v,hc,rfl⟩⟩;clear hc;generalize(T tx).2=cd at*;go_wp2_with(go_at_call 100;refine HR.out.mono ?_;rintro e w3⟨v3,rfl,ho3,hb3⟩);go_ret2;exact sK.out _ _ hb3
 ·obtain⟨h1,a,c,k,h2,h3⟩ :=YT.out.2 _ (List.mem_of_getElem? hj);dsimp only at h1 h2 h3;subst h2;have HP:Hid (pz T tx W mb Y (.returned (.tuple #[.slice a (T tx).1.length c,.int .i64 0])) Wb) :=⟨But.of_below HB.out,Or.inl ⟨a,c,k,L,h1,rfl,h3,YT.out⟩⟩;clear h1 h3 hj;go_wp2_with fail;go_ret2;exact HP.out
end Go.Proofs.YtcjiphknpagenaaGreatDoor
