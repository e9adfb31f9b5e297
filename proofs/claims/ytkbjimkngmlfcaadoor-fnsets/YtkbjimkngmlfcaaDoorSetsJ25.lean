import Derived.Test.YtkbjimkngmlfcaaDoorSetsJ19
import Derived.Test.YtkbjimkngmlfcaaDoorSetsJ21
import Derived.Test.YtkbjimkngmlfcaaDoorSetsJ24
open Go renaming World→aaa,Addr→aah,heap_alloc_new→aaA,Value→aab,TypeId→aaE,Operand→aaQ,wpAnyH→aax
open Go.Obj.cells renaming injEq→aaw
open Go.RowKit renaming Below→aas
open Go.RowKit.Below renaming refl→aar
open Go.Value renaming string→aal
open List renaming all_eq_true→aa3,length_append→aa1,length_set→aaR,set_cons_succ→aaY,mem_or_eq_of_mem_set→aaU
open Nat renaming le_refl→aau,le_trans→aaV
open Option.some renaming injEq→aav
open Or renaming inl→aaF,inr→aap
open Prod renaming snd→aat
namespace Go.Proofs.YtkbjimkngmlfcaaDoor
open Go Go.RowKit
set_option linter.unusedVariables false
set_option linter.unusedSimpArgs false
set_option maxRecDepth 100000
set_option maxHeartbeats 8000000
theorem Xc {P:Prop}(h:P:=by go_wp2_with fail;refine bodyPost_ret (v:= .agg #[.slice av l.length c9]) (by simp[results,Tryd.results33,go_sem,fu.out]) rfl ?_;exact gZ.out) :P:=h
theorem agf {P:Prop}(h:P:=by
 rw[hb.block k (Array.getElem?_eq_some_iff.1 hh).1 (fun e=>by
  obtain⟨_,ds,u,hu,h3⟩ :=h.bZ.inv e;rcases hu with rfl|rfl;·exact aN hh h3 h1 rfl
  ·exact aN hh h3 h2 rfl)];exact hh) :P:=h
def gw(s:ByteArray) :Bool:=decide (s.size≤16) &&decide (dG s=0) &&decide ((eO s).length≤30) &&(eO s).all fun r=>decide (r<128)
def gp(s:ByteArray) :Bool:=gw s&&decide ((dn (eO s)).count (-1)≤8) &&decide ((dn (eO s)).length≤30) &&(uK (dn (eO s))).all fun r=>decide (r<128)
abbrev yX:List ByteArray:=[⟨#[97,98]⟩,⟨#[114,117,110]⟩,⟨#[97]⟩]
abbrev Gb:List ByteArray:=[⟨#[97,42]⟩,⟨#[42,98]⟩,⟨#[63,97,63]⟩,⟨#[42]⟩,⟨#[]⟩,⟨#[114,117,110]⟩,⟨#[42,97,42,98,42]⟩,⟨#[99,63,63]⟩]
theorem QE:yX.all gw=true:=by decide+kernel
theorem U8:Gb.all gp=true:=by decide+kernel
def DD(W:aaa)(e:Ending)(W':aaa) :Prop:=∃v l c,e= .returned (.tuple #[.agg #[v],.int .i64 c])∧eu 256 31 (l.map aat)∧bq W' W.heap.size v l∧aas W.heap.size W W'
theorem Yd {ls ws:List Int}(hr:iG ls)(h: ∀y,y∈ls→y∈ws) :ls.length≤ws.length:=zh ls ws (hr.imp fun h=>by omega) h
theorem Y2(hC:iI)(s:ByteArray)(hg:gw s=true)(k:Int)(hk:0≤k∧k≤2)(W:aaa) :Calls Tryd.prog 50 #[.string s,.int .i64 k,.int .i64 0] W (DD W) :=by
 simp only[gw,Bool.and_eq_true,decide_eq_true_eq,aa3]at hg;obtain⟨⟨⟨h1,h2⟩,h3⟩,h4⟩ :=hg;refine(Rb hC s k 0 W (by omega) h2 h3 hk ⟨Int.le_refl _,by omega⟩).mono ?_;rintro e W'⟨ls,L,k1,k2,k3,k4,k5⟩;have hl:=Yd k1 fun y hy=>(k2 y).1 hy;rcases k5 with⟨_,rfl⟩| ⟨hL,v,l,rfl,rfl,hd⟩;·exact⟨_,[],11,rfl,eu.nil _ _,bq.nil _ _,k4⟩
 ·exact⟨v,l,0,rfl,eu.least k3 rfl hL (by omega) (fun r hr=>h4 r ((k2 r).1 hr)),hd,k4⟩
theorem ack(hC:iI)(s:ByteArray)(hg:gp s=true)(W:aaa) :Calls Tryd.prog 51 #[.string s] W (DD W) :=by
 simp only[gp,gw,Bool.and_eq_true,decide_eq_true_eq,aa3]at hg;obtain⟨⟨⟨⟨⟨⟨h1,h2⟩,h3⟩,h4⟩,h5⟩,h6⟩,h7⟩ :=hg;refine(Sk hC s W (by omega) h2 h3 h5).mono ?_;rintro e W'⟨ls,L,k1,k2,k6,k3,k4,k5⟩;rcases k5 with⟨_,rfl⟩| ⟨hL,v,l,rfl,rfl,hd⟩;·exact⟨_,[],11,rfl,eu.nil _ _,bq.nil _ _,k4⟩
 ·exact⟨v,l,0,rfl,eu.least k3 rfl hL (by omega) (fun r hr=>h7 r ((k2 r).1 hr)),hd,k4⟩
structure R3(m0 b:Nat)(ao:Option aah)(n cap:Nat)(a0:Int)(W0:aaa)(tc:List ByteArray)(gA tb:Option Nat)(k:Nat)(W:aaa) :Prop where
 sr: ∃a',a'≤a0+3*(k:Int)∧Sr m0 b ao n cap a' W
 but:But (fun x=>x=b) W0 W
 tab: ∀g,gA=some g→W.heap[g]?=some (.cells (tc.map aal).toArray 9)
 box: ∀t,tb=some t→W.heap[t]?=some (.cells #[.slice none 0 0] 25)∧W0.heap.size≤t
section
variable {m0 b:Nat} {ao:Option aah} {n cap:Nat} {a0:Int} {W0 W W':aaa} {tc:List ByteArray} {gA tb:Option Nat} {k:Nat}
theorem R3.start {W1:aaa}(h:Sr m0 b ao n cap a0 W0)(hb:But (fun x=>x=b) W0 W1)(h1:Sr m0 b ao n cap a0 W1) :R3 m0 b ao n cap a0 W0 tc none none 0 W1:=⟨⟨a0,by omega,h1⟩,hb,fun g e=>(nomatch e),fun t e=>(nomatch e)⟩
theorem R3.far(h:R3 m0 b ao n cap a0 W0 tc gA tb k W)(hb:aas W.heap.size W W') :R3 m0 b ao n cap a0 W0 tc gA tb k W':=by obtain⟨⟨a',h1,h2⟩,h3,h4,h5⟩ :=h;exact⟨⟨a',h1,h2.below hb⟩,h3.trans (But.of_below (X:=fun x=>x=b) hb) (fun i _ e=>e) (fun i _ e=>e),fun g e=>aC (h4 g e) hb,fun t e=>⟨aC (h5 t e).1 hb,(h5 t e).2⟩⟩
theorem R3.am6(h:R3 m0 b ao n cap a0 W0 tc none tb k W) :R3 m0 b ao n cap a0 W0 tc (some W.heap.size) tb k (W.alloc (.cells (tc.map aal).toArray 9)) :=by obtain⟨h1,h2,_,h4⟩ :=h.far ((aar _ _).alloc (aau _) (.cells (tc.map aal).toArray 9));exact⟨h1,h2,fun g e=>by cases e;exact aaA _ _,h4⟩
theorem R3.ani(h:R3 m0 b ao n cap a0 W0 tc gA none k W) :R3 m0 b ao n cap a0 W0 tc gA (some W.heap.size) k (W.alloc (.cells #[.slice none 0 0] 25)) :=by obtain⟨h1,h2,h3,_⟩ :=h.far ((aar _ _).alloc (aau _) (.cells #[.slice none 0 0] 25));exact⟨h1,h2,h3,fun t e=>by cases e;exact⟨aaA _ _,h.but.size⟩⟩
theorem R3.next(h:R3 m0 b ao n cap a0 W0 tc gA tb k W)(hn:n≤1048576)(ha:a0+3*(k:Int)≤1000000)(m:Int)(hm:1≤m)(hm2:m≤16777216) :Calls Tryd.prog 22 #[.pointer (some ⟨b,0,none⟩),.int .i64 m] W fun e W'=>∃j:Nat,e= .returned (.int .i64 (j:Int))∧(j:Int)<m∧R3 m0 b ao n cap a0 W0 tc gA tb (k+1) W':=by
 obtain⟨⟨a',h1,h2⟩,h3,h4,h5⟩ :=h;refine(h2.next hn (by omega) m hm hm2).mono ?_;rintro e W'⟨j,a2,rfl,hj,ha2,hs,hb⟩;obtain⟨cs,hbx⟩ :=h2.box;have ho: ∀(g:Nat)(ds:Array aab)(t:aaE),t≠78→W.heap[g]?=some (.cells ds t)→W'.heap[g]?=some (.cells ds t) :=fun g ds t ht hg=>by rw[hb.block g (Array.getElem?_eq_some_iff.1 hg).1 (fun e=>by subst e;exact aN hg hbx ht rfl)];exact hg
 exact⟨j,rfl,hj,⟨a2,by omega,hs⟩,h3.trans hb (fun i _ e=>e) (fun i _ e=>e),fun g e=>ho _ _ _ (by decide) (h4 g e),fun t e=>⟨ho _ _ _ (by decide) (h5 t e).1,(h5 t e).2⟩⟩
end
theorem M0(W:aaa)(ρ:aaQ→aab)(o:Oper)(ho:o.op= .buildSlice 80 3 #[(0,.const (.string ⟨#[97,98]⟩)),(1,.const (.string ⟨#[114,117,110]⟩)),(2,.const (.string ⟨#[97]⟩))])(hc: ∀v,ρ (.const v)=v) :(execOp ρ o).run Tryd.prog W= .ok (.value (.slice (some ⟨W.heap.size,0,none⟩) 3 3)) (W.alloc (.cells (yX.map aal).toArray 9)) :=by unfold execOp;simp only[ho,hc,Sem.run_bind,Sem.run_pure,Result.andThen_ok];go_simp
theorem JB(W:aaa)(ρ:aaQ→aab)(o:Oper)(ho:o.op= .alloc 25) :(execOp ρ o).run Tryd.prog W= .ok (.value (.pointer (some ⟨W.heap.size,0,none⟩))) (W.alloc (.cells #[.slice none 0 0] 25)) :=by exact Xd
theorem KU(W:aaa)(ρ:aaQ→aab)(o:Oper)(x:aaQ)(ho:o.op= .load 9 x)(b off:Nat)(v:aab)(hx:ρ x= .pointer (some ⟨b,off,none⟩))(h0:W.cell? ⟨b,off,none⟩=some v) :(execOp ρ o).run Tryd.prog W= .ok (.value v) W:=by exact vG
section
variable {ops:Array Oper} {Q:Exit→Act→aaa→Prop} {S S':aaa→Prop} {md:Region.Mode} {a:Act} {w:aaa}
theorem DV(h: ∀u,S' u→S u) : ∀(fuel:Nat)(listed:Array Bool)(a:Act)(w:aaa),aax Tryd.prog md ops Q S' fuel listed a w→aax Tryd.prog md ops Q S fuel listed a w
 |0,_,_,_,hh=>hh
 |fuel+1,_,_,_,hh=>⟨hh.1,fun i hi=>wpOp_mono (fun a' w' h'=>⟨h _ h'.1,DV h fuel _ a' w' h'.2⟩) (hh.2 i hi)⟩
theorem Gv(i j l:Nat) {fuel:Nat} {listed:Array Bool}(hr:Region.ready md ops listed= [i,j,l])(h1:wpOp Tryd.prog ops Q i (fun a' w'=>S w'∧aax Tryd.prog md ops Q S fuel (listed.setIfInBounds i true) a' w') a w)(h2:wpOp Tryd.prog ops Q j (fun a' w'=>S w'∧aax Tryd.prog md ops Q S fuel (listed.setIfInBounds j true) a' w') a w)(h3:wpOp Tryd.prog ops Q l (fun a' w'=>S w'∧aax Tryd.prog md ops Q S fuel (listed.setIfInBounds l true) a' w') a w) :aax Tryd.prog md ops Q S (fuel+1) listed a w:=wpAnyH_all hr (by simp) (fun k hk=>by
 have e:k=i∨k=j∨k=l:=by simpa using hk
 rcases e with rfl|rfl|rfl;·exact h1
 ·exact h2
 ·exact h3)
end
def Ti(m0 b:Nat)(ao:Option aah)(n cap:Nat)(a0:Int)(W:aaa)(e:Ending)(W':aaa) :Prop:=∃v l a',e= .returned (.agg #[v])∧eu 256 31 (l.map aat)∧bq W' W.heap.size v l∧a'≤a0+200∧Sr m0 b ao n cap a' W'∧But (fun x=>x=b) W W'
theorem Kv {m0 b:Nat} {ao:Option aah} {n cap:Nat} {a0 a':Int} {W0 Wf:aaa} {v:aab} {l:List dK}(hx:Wf.heap[W0.heap.size]?=some (.cells #[.slice none 0 0] 25))(hd:eu 256 31 (l.map aat))(hm:bq Wf W0.heap.size v l)(ha:a'≤a0+200)(hs:Sr m0 b ao n cap a' Wf)(hb:But (fun x=>x=b) W0 Wf)(hlt:b<W0.heap.size) :(Wf.setCell ⟨W0.heap.size,0,none⟩ v).cell? ⟨W0.heap.size,0,none⟩=some v∧Ti m0 b ao n cap a0 W0 (.returned (.agg #[v])) (Wf.setCell ⟨W0.heap.size,0,none⟩ v) :=by
 refine⟨by rw[aj (aL hx 0 v) 0];simp,v,l,a',rfl,hd,hm.congr fun k cs t ht _ hh=> ?_,ha,hs.keep ((But.refl (fun k=>k=W0.heap.size) Wf).set W0.heap.size 0 _ rfl) (fun x hx=>by have:=hs.mb;omega),hb.trans ((But.refl (fun k=>k=W0.heap.size) Wf).set W0.heap.size 0 _ rfl) (fun i _ e=>e) (fun i hi e=>by omega)⟩;rw[ay Wf W0.heap.size 0 _ k (by
  rintro rfl;rw[hx]at hh;simp only[aav,aaw]at hh;rcases ht with rfl|rfl;·exact absurd hh.2.1 (by decide)
  ·exact absurd hh.2.1 (by decide))];exact hh
def aao(m0 b:Nat)(ao:Option aah)(n cap:Nat)(a0:Int)(W0:aaa)(dv:aab)(W':aaa) :Prop:=∃t v l a',dv= .pointer (some ⟨t,0,none⟩)∧W'.heap[t]?=some (.cells #[v] 25)∧eu 256 31 (l.map aat)∧bq W' W0.heap.size v l∧a'≤a0+12∧Sr m0 b ao n cap a' W'∧But (fun x=>x=b) W0 W'
theorem R3.mid {m0 b:Nat} {ao:Option aah} {n cap:Nat} {a0:Int} {W0 W:aaa} {tc:List ByteArray} {gA:Option Nat} {t k:Nat} {v:aab} {l:List dK}(h:R3 m0 b ao n cap a0 W0 tc gA (some t) k W)(hd:eu 256 31 (l.map aat))(hm:bq W W0.heap.size v l)(hb:b<W0.heap.size) : ∃t' v' l' a',Value.pointer (some ⟨t,0,none⟩)= .pointer (some ⟨t',0,none⟩)∧(W.setCell ⟨t,0,none⟩ v).heap[t']?=some (.cells #[v'] 25)∧eu 256 31 (l'.map aat)∧bq (W.setCell ⟨t,0,none⟩ v) W0.heap.size v' l'∧a'≤a0+3*(k:Int)∧Sr m0 b ao n cap a' (W.setCell ⟨t,0,none⟩ v)∧But (fun x=>x=b) W0 (W.setCell ⟨t,0,none⟩ v) :=by
 obtain⟨⟨a',h1,h2⟩,h3,h4,h5⟩ :=h;obtain⟨h6,h7⟩ :=h5 t rfl;refine⟨t,v,l,a',rfl,by have:=aL h6 0 v;simpa using this,hd,hm.congr fun k cs ty ht _ hh=> ?_,by omega,h2.keep ((But.refl (fun k=>k=t) W).set t 0 _ rfl) (fun x hx=>by have:=h2.mb;omega),h3.trans ((But.refl (fun k=>k=t) W).set t 0 _ rfl) (fun i _ e=>e) (fun i hi e=>by omega)⟩;rw[ay W t 0 _ k (by
  rintro rfl;rw[h6]at hh;simp only[aav,aaw]at hh;rcases ht with rfl|rfl;·exact absurd hh.2.1 (by decide)
  ·exact absurd hh.2.1 (by decide))];exact hh
theorem XO(X:Nat)(hX:X<3) : ∃s,(yX.map aal).toArray[X]?=some (.string s)∧gw s=true:=by
 have h:=List.all_eq_true.1 QE;match X,hX with
 |0,_=>exact⟨_,rfl,h _ (by simp)⟩
 |1,_=>exact⟨_,rfl,h _ (by simp)⟩
 |2,_=>exact⟨_,rfl,h _ (by simp)⟩
theorem R3.an0 {m0 b:Nat} {ao:Option aah} {n cap:Nat} {a0:Int} {W0 W W':aaa} {tc:List ByteArray} {tb:Option Nat} {k:Nat}(h:R3 m0 b ao n cap a0 W0 tc (some W.heap.size) tb k W') : ∃g,W.heap.size=g:=⟨_,rfl⟩
theorem R3.anr {m0 b:Nat} {ao:Option aah} {n cap:Nat} {a0:Int} {W0 W W':aaa} {tc:List ByteArray} {gA:Option Nat} {k:Nat}(h:R3 m0 b ao n cap a0 W0 tc gA (some W.heap.size) k W') : ∃g,W.heap.size=g:=⟨_,rfl⟩
theorem R3.O6 {m0 b:Nat} {ao:Option aah} {n cap:Nat} {a0:Int} {W0 W:aaa} {tc:List ByteArray} {gA tb:Option Nat} {k:Nat}(h:R3 m0 b ao n cap a0 W0 tc gA tb k W)(g t:Nat)(h1:gA=some g)(h2:tb=some t) :g≠t:=aN (h.tab g h1) (h.box t h2).1 (by decide)
theorem R3.fin {m0 b:Nat} {ao:Option aah} {n cap:Nat} {a0 a1:Int} {W0 W2 W:aaa} {tc:List ByteArray} {gA:Option Nat} {t k:Nat} {v:aab} {l:List dK}(h:R3 m0 b ao n cap a1 W2 tc gA (some t) k W)(hk:k≤3)(hd:eu 256 31 (l.map aat))(hm:bq W W2.heap.size v l)(hb:b<W2.heap.size)(ha:a1≤a0+3)(hb2:But (fun x=>x=b) W0 W2)(hx:W2.heap[W0.heap.size]?=some (.cells #[.slice none 0 0] 25))(hlt:b<W0.heap.size) :aao m0 b ao n cap a0 W0 (.pointer (some ⟨t,0,none⟩)) (W.setCell ⟨t,0,none⟩ v)∧(W.setCell ⟨t,0,none⟩ v).heap[W0.heap.size]?=some (.cells #[.slice none 0 0] 25)∧W.cell? ⟨t,0,none⟩=some (.slice none 0 0)∧W.frozen? ⟨t,0,none⟩=false:=by have hbx:=h.box t rfl;obtain⟨t',v',l',a',e1,e2,e3,e4,e5,e6,e7⟩ :=h.mid hd hm hb;have hsz:=(Array.getElem?_eq_some_iff.1 hx).1;refine⟨⟨t',v',l',a',e1,e2,e3,e4.lower hb2.size,by omega,e6,hb2.trans e7 (fun i _ e=>e) (fun i _ e=>e)⟩,?_,aj hbx.1 0,bL hbx.1 0⟩;rw[ay W t 0 _ _ (by omega),h.but.block _ hsz (fun e=>by have e':W0.heap.size=b:=e;omega)];exact hx
theorem Mi(hC:iI)(m0 b:Nat)(ao:Option aah)(n cap:Nat)(a0:Int)(W0:aaa)(hn:n≤1048576)(ha:a0≤900000)(hs:Sr m0 b ao n cap a0 W0)(a1:Int)(W2:aaa)(ha1:a1≤a0+3)(hs2:Sr m0 b ao n cap a1 W2)(hb2:But (fun x=>x=b) W0 W2)(hx2:W2.heap[W0.heap.size]?=some (.cells #[.slice none 0 0] 25))
    {c:Go.Code}(hc:((Tryd.f33.body.bind (j5 3)).getD .skip)=c) {Q:Exit→Act→aaa→Prop}(hQ: ∀(d:Option Nat)(v:aab)(c:List PanicEntry)(a:Act)(w:aaa),Q (.panic c) (a.put d v) w→Q (.panic c) a w) {v1 v3 v4 v5 v6 v7 v8 v9 v10 v11 v12 v13 v14 v15 v16 v17 v18 v19 v20 v21 v22 v23 v24 v25 v26 v27 v28 v29 v30 v31 v32 v33 v34 v35 v36 v37 v38 v39 v40 v41 v42 v43 v44 v45 v46 v47 v48 v49 v50 v51 v52 v53 v54 v55 v56 v57 v58 v59 v60 v61 v62 v63 v64 v65 v66 v67 v68 v69 v70 v71 v72 v73 v74 v75 v76 v77 v78 v79 v80 v81:aab}
    (H: ∀(dv cv:aab)(u16 u17 u18 u19 u20 u21 u22 u23 u24 u25 u26:aab)(W':aaa),aao m0 b ao n cap a0 W0 dv W'→W'.heap[W0.heap.size]?=some (.cells #[.slice none 0 0] 25)→Q .normal ⟨#[.pointer (some ⟨b,0,none⟩),v1,.pointer (some ⟨W0.heap.size,0,none⟩),dv,cv,v5,v6,v7,v8,v9,v10,v11,v12,v13,v14,v15,u16,u17,u18,u19,u20,u21,u22,u23,u24,u25,u26,v27,v28,v29,v30,v31,v32,v33,v34,v35,v36,v37,v38,v39,v40,v41,v42,v43,v44,v45,v46,v47,v48,v49,v50,v51,v52,v53,v54,v55,v56,v57,v58,v59,v60,v61,v62,v63,v64,v65,v66,v67,v68,v69,v70,v71,v72,v73,v74,v75,v76,v77,v78,v79,v80,v81],[]⟩ W') :Go.Code.wp Tryd.prog c Q ⟨#[.pointer (some ⟨b,0,none⟩),v1,.pointer (some ⟨W0.heap.size,0,none⟩),v3,v4,v5,v6,v7,v8,v9,v10,v11,v12,v13,v14,v15,v16,v17,v18,v19,v20,v21,v22,v23,v24,v25,v26,v27,v28,v29,v30,v31,v32,v33,v34,v35,v36,v37,v38,v39,v40,v41,v42,v43,v44,v45,v46,v47,v48,v49,v50,v51,v52,v53,v54,v55,v56,v57,v58,v59,v60,v61,v62,v63,v64,v65,v66,v67,v68,v69,v70,v71,v72,v73,v74,v75,v76,v77,v78,v79,v80,v81],[]⟩ W2:=by
  subst hc
  have HH:=ah H
  have HS2:=ah hs2
  have kQ:=ah hx2
  have HB2:=ah hb2
  have hlt:=hs.lt
  clear H hs2 hx2 hb2
  conv=>arg 2;whnf
  refine wp_region_held (S:=fun _=>True) (by kernel_rfl) ?_
  have hbd:aas W2.heap.size W2 ({heap:=W2.heap,tape:=W2.tape,drawn:=W2.drawn+1,os:=W2.os,output:=W2.output} :aaa) :=(aar _ _).drew
  generalize({heap:=W2.heap,tape:=W2.tape,drawn:=W2.drawn+1,os:=W2.os,output:=W2.output} :aaa)=V0 at*
  have r:R3 m0 b ao n cap a1 W2 yX none none 0 V0:=R3.start HS2.out (But.of_below hbd) (HS2.out.below hbd)
  have aoo:b<W2.heap.size:=HS2.out.lt
  try refine tn ?_
  refine tx 1 ?_ (hQ:=hQ _ _)
  refine tx 5 ?_ (hQ:=hQ _ _)
  repeat' first
    | (obtain⟨q1,q2,q3,q4⟩ :=r.fin (by decide) hd hm aoo ha1 HB2.out kQ.out hlt
       refine aF 12 (by decide+kernel) ?_
       refine bI _ rfl (by kernel_rfl) (pY _ _ _ _ _ rfl t av l.length cv _ (by kernel_rfl) (by kernel_rfl) q3 q4) ?_
       refine⟨(ay _ _ _ _ _ (r.O6 _ _ rfl rfl)).trans (r.tab _ rfl),?_⟩
       try refine tn ?_
       refine tx 13 ?_ (hQ:=hQ _ _) (hS:=(ay _ _ _ _ _ (r.O6 _ _ rfl rfl)).trans (r.tab _ rfl))
       refine wpAnyH_done (by kernel_rfl) ?_ _
       exact HH.out _ _ _ _ _ _ _ _ _ _ _ _ _ _ q1 q2)
    | (obtain⟨s,hs1,hs2⟩ :=XO X (by omega)
       refine tx 3 ?_ (hf:=by decide+kernel) (hr:=by decide+kernel) (hQ:=hQ _ _) (hS:=r.tab _ rfl)
       refine tx 4 ?_ (hQ:=hQ _ _) (v:= .string s) (hS:=r.tab _ rfl) (hx:=fun u hu=>KU u _ _ _ rfl gA X (.string s) (by kernel_rfl) ((aj hu X).trans hs1)))
    |refine Gv 0 2 11 (by decide+kernel) ?_ ?_ ?_
    |refine Gv 0 6 11 (by decide+kernel) ?_ ?_ ?_
    |refine bX 2 11 (by decide+kernel) ?_ ?_
    |refine bX 6 11 (by decide+kernel) ?_ ?_
    |refine bX 7 11 (by decide+kernel) ?_ ?_
    |refine bX 0 11 (by decide+kernel) ?_ ?_
    |refine bX 0 6 (by decide+kernel) ?_ ?_
    |refine bX 0 2 (by decide+kernel) ?_ ?_
    |refine aF 0 (by decide+kernel) ?_
    |refine aF 2 (by decide+kernel) ?_
    |refine aF 6 (by decide+kernel) ?_
    |refine aF 7 (by decide+kernel) ?_
    |refine aF 11 (by decide+kernel) ?_
    | (refine aP _ _ rfl (by kernel_rfl) (M0 _ _ _ rfl (fun _=>rfl)) ?_
       refine⟨trivial,?_⟩
       replace r:=r.am6
       obtain⟨gA,hgA⟩ :=r.an0
       rw[hgA]at r
       simp only[hgA]
       clear hgA
       generalize World.alloc _ (.cells (yX.map aal).toArray 9)=V at*
       try refine tn ?_
       refine DV (S':=fun u=>u.heap[gA]?=some (.cells (yX.map aal).toArray 9)) (fun _ _=>trivial) _ _ _ _ ?_)
    | (refine bQ 22 #[.pointer (some ⟨b,0,none⟩),.int .i64 3] rfl (by kernel_rfl) (eT _ _ _ _ _ _ _ _ rfl _ _ (by kernel_rfl) (by rfl) (Tryd.call22 _ _)) ?_
       refine(r.next hn (by omega) 3 (by decide) (by decide)).mono ?_
       clear r
       rintro e' V⟨X,rfl,hX,r⟩
       refine⟨by first|exact r.tab _ rfl|trivial,?_⟩
       try refine tn ?_)
    | (refine bQ 22 #[.pointer (some ⟨b,0,none⟩),.int .i64 2] rfl (by kernel_rfl) (eT _ _ _ _ _ _ _ _ rfl _ _ (by kernel_rfl) (by rfl) (Tryd.call22 _ _)) ?_
       refine(r.next hn (by omega) 2 (by decide) (by decide)).mono ?_
       clear r
       rintro e' V⟨Y,rfl,hY,r⟩
       refine⟨by first|exact r.tab _ rfl|trivial,?_⟩
       try refine tn ?_)
    | (refine bQ 50 #[.string s,.int .i64 (Y:Int),.int .i64 0] rfl (by kernel_rfl) (qZ _ _ _ _ _ _ _ _ _ _ rfl _ _ _ (by kernel_rfl) (by kernel_rfl) (by kernel_rfl) (Tryd.call50 _ _)) ?_
       refine(Y2 hC s hs2 Y ⟨by omega,by omega⟩ _).mono ?_
       rintro e' V'⟨v,l,c,rfl,hd,hm,hb⟩
       obtain⟨av,cv,rfl⟩ :=hm.vals
       replace hm:=hm.lower r.but.size
       replace r:=r.far hb
       clear hb
       refine⟨r.tab _ rfl,?_⟩
       try refine tn ?_
       refine tx 8 ?_ (hQ:=hQ _ _) (hS:=r.tab _ rfl)
       refine tx 9 ?_ (hQ:=hQ _ _) (v:= .agg #[.slice av l.length cv]) (hx:=fun u _=>rZ u _ _ _ 0 rfl (.agg #[.slice av l.length cv]) (.int .i64 c) _ (by kernel_rfl) rfl) (hS:=r.tab _ rfl)
       refine tx 10 ?_ (hQ:=hQ _ _) (v:= .int .i64 c) (hx:=fun u _=>rZ u _ _ _ 1 rfl (.agg #[.slice av l.length cv]) (.int .i64 c) _ (by kernel_rfl) rfl) (hS:=r.tab _ rfl))
    | (refine aP _ _ rfl (by kernel_rfl) (JB _ _ _ rfl) ?_
       try replace hm:=hm.below ((aar _ _).alloc (aau _) (.cells #[.slice none 0 0] 25))
       replace r:=r.ani
       refine⟨by first|exact r.tab _ rfl|trivial,?_⟩
       obtain⟨t,ht⟩ :=r.anr
       rw[ht]at r
       simp only[ht]
       clear ht
       generalize World.alloc _ (.cells #[.slice none 0 0] 25)=V at*
       try refine tn ?_)
structure Rw(m0 b:Nat)(ao:Option aah)(n cap:Nat)(A:Int)(W0 W:aaa)(tb:Nat)(v:aab)(l:List dK) :Prop where
 sr:Sr m0 b ao n cap A W
 but:But (fun x=>x=b) W0 W
 res:W.heap[W0.heap.size]?=some (.cells #[.slice none 0 0] 25)
 box:W.heap[tb]?=some (.cells #[v] 25)
 bZ:bq W W0.heap.size v l
 low:W0.heap.size<tb
 lt:b<W0.heap.size
 ok:eu 6 3 (l.map aat)
section
variable {m0 b:Nat} {ao:Option aah} {n cap:Nat} {A A':Int} {W0 W W':aaa} {tb sb:Nat} {v va:aab} {l:List dK} {f:Bool} {rs:List (Int×Int)} {e:Int}
theorem bq.src(h:bq W W0.heap.size v l)(hs:Sr m0 b ao n cap A W)(hb:But (fun x=>x=b) W W') :bq W' W0.heap.size v l:=by
 obtain⟨cs,hbx⟩ :=hs.box;exact h.congr fun k ds t ht _ hh=>(hb.block k (Array.getElem?_eq_some_iff.1 hh).1 (fun e=>by
  subst e;rw[hbx]at hh;simp only[aav,aaw]at hh;rcases ht with rfl|rfl;·exact absurd hh.2.1 (by decide)
  ·exact absurd hh.2.1 (by decide))).trans hh
theorem mI.src(h:mI W W0.heap.size v l sb va f rs e)(hs:Sr m0 b ao n cap A W)(hb:But (fun x=>x=b) W W') :mI W' W0.heap.size v l sb va f rs e:=by
 obtain⟨cs,hbx⟩ :=hs.box;exact h.congr fun k ds t ht hh=>(hb.block k (Array.getElem?_eq_some_iff.1 hh).1 (fun e=>by
  subst e;rw[hbx]at hh;simp only[aav,aaw]at hh;rcases ht with rfl|rfl;·exact absurd hh.2.1 (by decide)
  ·exact absurd hh.2.1 (by decide))).trans hh
theorem Sr.other(hs:Sr m0 b ao n cap A W)(hb:But (fun x=>x=b) W W') {k:Nat} {ds:Array aab} {t:aaE}(ht:t≠78)(hh:W.heap[k]?=some (.cells ds t)) :W'.heap[k]?=some (.cells ds t) :=by obtain⟨cs,hbx⟩ :=hs.box;rw[hb.block k (Array.getElem?_eq_some_iff.1 hh).1 (aN hh hbx ht)];exact hh
theorem Rw.src(h:Rw m0 b ao n cap A W0 W tb v l)(hs:Sr m0 b ao n cap A' W')(hb:But (fun x=>x=b) W W') :Rw m0 b ao n cap A' W0 W' tb v l:=⟨hs,h.but.trans hb (fun i _ e=>e) (fun i _ e=>e),h.sr.other hb (by decide) h.res,h.sr.other hb (by decide) h.box,h.bZ.src h.sr hb,h.low,h.lt,h.ok⟩
theorem Rw.below(h:Rw m0 b ao n cap A W0 W tb v l)(hb:aas W.heap.size W W') :Rw m0 b ao n cap A W0 W' tb v l:=⟨h.sr.below hb,h.but.trans (But.of_below (X:=fun x=>x=b) hb) (fun i _ e=>e) (fun i _ e=>e),aC h.res hb,aC h.box hb,h.bZ.below hb,h.low,h.lt,h.ok⟩
theorem Rw.BU(h:Rw m0 b ao n cap A W0 W tb v l)(c:mI W W0.heap.size v l sb va f rs e) {W1:aaa} {ic:aab} {a:Int×Int}(hb:But (fun b=>va.ownBlock=some b) W W1)(ho:W1.ownsRow W0.heap.size 44 2 ic (rs.length+1) (dN rs++ [.int .i64 a.1,.int .i64 a.2]))(hat: ∀b,ic.ownBlock=some b→va.ownBlock=some b∨W.heap.size≤b) :Rw m0 b ao n cap A W0 (W1.setCell ⟨sb,1,none⟩ ic) tb v l∧mI (W1.setCell ⟨sb,1,none⟩ ic) W0.heap.size v l sb ic f (rs++ [a]) e∧W1.heap[sb]?=some (.cells #[.bool f,va,.int .i64 e] 42) :=by
 obtain⟨c1,c2⟩ :=c.BU hb ho hat;have hva: ∀k,va.ownBlock=some k→W0.heap.size≤k∧∃cs,W.heap[k]?=some (.cells cs 44) :=fun k hk=>by obtain⟨h1,cs,h2⟩ :=aA c.aR hk;exact⟨h1,cs,h2⟩
 have ho2: ∀(k:Nat)(ds:Array aab)(t:aaE),t≠44→t≠42→W.heap[k]?=some (.cells ds t)→(W1.setCell ⟨sb,1,none⟩ ic).heap[k]?=some (.cells ds t) :=fun k ds t h1 h2 hh=>by
  have e1:W1.heap[k]?=some (.cells ds t) :=by rw[hb.block k (Array.getElem?_eq_some_iff.1 hh).1 (fun e=>by obtain⟨_,cs,h3⟩ :=hva k e;exact aN hh h3 h1 rfl)];exact hh
  rw[ay W1 sb 1 _ k (aN e1 c2 h2)];exact e1
 have gU:But (fun x=>W0.heap.size≤x∧x≠b) W (W1.setCell ⟨sb,1,none⟩ ic) :=by have h1:But (fun x=>W0.heap.size≤x∧x≠b) W W1:=hb.mono fun i _ e=>⟨(hva i e).1,fun hc=>by have:=(hva i e).1;have:=h.lt;omega⟩;refine h1.trans ((But.refl (fun x=>x=sb) W1).set sb 1 ic rfl) (fun i _ e=>e) (fun i _ e=> ?_);have e':i=sb:=e;have h2:=c.from_;have h3:=h.lt;exact⟨by omega,by omega⟩
 exact⟨⟨h.sr.keep gU (fun x hx=>⟨by have:=h.sr.mb;have:=h.lt;omega,hx.2⟩),h.but.trans gU (fun i _ e=>e) (fun i hi e=>by have:=e.1;omega),ho2 _ _ _ (by decide) (by decide) h.res,ho2 _ _ _ (by decide) (by decide) h.box,c1.bZ,h.low,h.lt,h.ok⟩,c1,c2⟩
theorem Rw.push(h:Rw m0 b ao n cap A W0 W tb v l)(c:mI W W0.heap.size v l sb va f rs e) {W1:aaa} {v':aab}(hb:But (fun b=>v.ownBlock=some b) W W1)(ho:W1.ownsRow W0.heap.size 42 3 v' (l.length+1) (dS l++ [.bool f,va,.int .i64 e]))(hl:l.length<6)(hr:rs.length≤3)(hlow: ∀a∈rs,a.1<128) :Rw m0 b ao n cap A W0 (W1.setCell ⟨tb,0,none⟩ v') tb v' (l++ [(va,f,rs,e)])∧W1.heap[tb]?=some (.cells #[v] 25) :=by
 have hv: ∀k,v.ownBlock=some k→W0.heap.size≤k∧∃cs,W.heap[k]?=some (.cells cs 42) :=fun k hk=>by obtain⟨h1,cs,h2⟩ :=aA c.bZ.row hk;exact⟨h1,cs,h2⟩
 have ho2: ∀(k:Nat)(ds:Array aab)(t:aaE),t≠42→W.heap[k]?=some (.cells ds t)→W1.heap[k]?=some (.cells ds t) :=fun k ds t h1 hh=>by rw[hb.block k (Array.getElem?_eq_some_iff.1 hh).1 (fun e=>by obtain⟨_,cs,h3⟩ :=hv k e;exact aN hh h3 h1 rfl)];exact hh
 have hbx:=ho2 _ _ _ (by decide) h.box;have hrs:=ho2 _ _ _ (by decide) h.res;have gU:But (fun x=>W0.heap.size≤x∧x≠b) W (W1.setCell ⟨tb,0,none⟩ v') :=by have h1:But (fun x=>W0.heap.size≤x∧x≠b) W W1:=hb.mono fun i _ e=>⟨(hv i e).1,fun hc=>by have:=(hv i e).1;have:=h.lt;omega⟩;refine h1.trans ((But.refl (fun x=>x=tb) W1).set tb 0 v' rfl) (fun i _ e=>e) (fun i _ e=> ?_);have e':i=tb:=e;have h2:=h.low;have h3:=h.lt;exact⟨by omega,by omega⟩
 have hd:=c.push hb ho;refine⟨⟨h.sr.keep gU (fun x hx=>⟨by have:=h.sr.mb;have:=h.lt;omega,hx.2⟩),h.but.trans gU (fun i _ e=>e) (fun i hi e=>by have:=e.1;omega),?_,by have:=aL hbx 0 v';simpa using this,hd.congr fun k cs t ht _ hh=> ?_,h.low,h.lt,?_⟩,hbx⟩;·rw[ay W1 tb 0 _ _ (by have:=h.low;omega)];exact hrs
 ·rw[ay W1 tb 0 _ k (by
   rintro rfl;rw[hbx]at hh;simp only[aav,aaw]at hh;rcases ht with rfl|rfl;·exact absurd hh.2.1 (by decide)
   ·exact absurd hh.2.1 (by decide))];exact hh
 ·rw[List.map_append];refine⟨by rw[aa1];have:=h.ok.len;rw[List.length_map]at this⊢;simp;omega,fun s hs=> ?_,fun s hs=> ?_⟩
  ·rcases List.mem_append.1 hs with hs|hs;·exact h.ok.aR s hs
   ·rw[List.mem_singleton.1 hs];exact hr
  ·rcases List.mem_append.1 hs with hs|hs;·exact h.ok.low s hs
   ·rw[List.mem_singleton.1 hs];exact fun a ha=>aaF (hlow a ha)
end
theorem abZ(X:Nat)(hX:X<8) : ∃s,(Gb.map aal).toArray[X]?=some (.string s)∧gp s=true:=by
 have h:=List.all_eq_true.1 U8;match X,hX with
 |0,_=>exact⟨_,rfl,h _ (by simp)⟩
 |1,_=>exact⟨_,rfl,h _ (by simp)⟩
 |2,_=>exact⟨_,rfl,h _ (by simp)⟩
 |3,_=>exact⟨_,rfl,h _ (by simp)⟩
 |4,_=>exact⟨_,rfl,h _ (by simp)⟩
 |5,_=>exact⟨_,rfl,h _ (by simp)⟩
 |6,_=>exact⟨_,rfl,h _ (by simp)⟩
 |7,_=>exact⟨_,rfl,h _ (by simp)⟩
theorem Dx(hC:iI)(m0 b:Nat)(ao:Option aah)(n cap:Nat)(a0:Int)(W0:aaa)(hn:n≤1048576)(ha:a0≤900000)(hs:Sr m0 b ao n cap a0 W0) :Calls Tryd.prog 33 #[.pointer (some ⟨b,0,none⟩)] W0 (Ti m0 b ao n cap a0 W0) :=by
 obtain⟨is,his,hs0,hs1,hs2⟩ :=info_parts Tryd.infoStD;have HS:=ah hs;have hlt:=hs.lt;have hb1:aas W0.heap.size W0 (W0.alloc (.cells #[.slice none 0 0] 25)) :=(aar _ _).alloc (aau _) _;have jT:Hid ((W0.alloc (.cells #[.slice none 0 0] 25)).heap[W0.heap.size]?=some (.cells #[.slice none 0 0] 25)) :=aaA _ _;have pU:=ah (hs.below hb1);have HB1:=ah hb1;clear hs hb1;go_enter Tryd.func33,Tryd.ntmps33;go_upto_region 1 with fail;generalize W0.alloc (.cells #[.slice none 0 0] 25)=W1 at*;go_wp2_with fail;refine(pU.out.next hn (by omega) 6 (by decide) (by decide)).mono ?_;rintro e W2⟨y,a1,rfl,hy,ha1,rz,hbt⟩;have HS2:=ah rz;have kQ:=ah (pU.out.other hbt (by decide) jT.out);have HB2:Hid (But (fun x=>x=b) W0 W2) :=(But.of_below (X:=fun x=>x=b) HB1.out).trans hbt (fun i _ e=>e) (fun i _ e=>e);clear rz hbt jT pU HB1;by_cases y0:y=0
 ·subst y0;go_upto_region 3 with fail;refine Mi hC m0 b ao n cap a0 W0 hn ha HS.out a1 W2 ha1 HS2.out HB2.out kQ.out (by kernel_rfl) (fun d _ _ _ _ h=>by cases d<;>exact h) (fun dv cv u16 u17 u18 u19 u20 u21 u22 u23 u24 u25 u26 W' hmid hx=> ?_);obtain⟨t,v,l,a',rfl,hx',hd,hm,ha',hs',hb'⟩ :=hmid;obtain⟨av,c9,rfl⟩ :=hm.vals;obtain⟨q1,q2⟩ :=Kv (a0:=a0) hx hd hm (by omega) hs' hb' hlt;have t0:=aj hx' 0;have s0:=aj hx 0;have f0:=bL hx 0;have fu:=ah q1;have gZ:=ah q2;clear hx hx' hd hm hs' hb' q1 q2;exact Xc
 by_cases y1:y=1
 ·subst y1;have hz0:((1:Int)==0)=false:=rfl;go_upto_region 7 with fail;have hb3:aas W2.heap.size W2 (W2.alloc (.cells #[.slice none 0 0] 25)) :=(aar _ _).alloc (aau _) _;have mZ:Hid (Rw m0 b ao n cap a1 W0 (W2.alloc (.cells #[.slice none 0 0] 25)) W2.heap.size (.slice none 0 0) []) :=⟨HS2.out.below hb3,HB2.out.trans (But.of_below (X:=fun x=>x=b) hb3) (fun i _ e=>e) (fun i _ e=>e),aC kQ.out hb3,aaA _ _,bq.nil _ _,(Array.getElem?_eq_some_iff.1 kQ.out).1,hlt,eu.nil _ _⟩;generalize W2.alloc (.cells #[.slice none 0 0] 25)=W3 at*;generalize W2.heap.size=tb at*;clear hb3 HS2 kQ HB2;go_wp2_with fail;refine(mZ.out.sr.next hn (by omega) 6 (by decide) (by decide)).mono ?_;rintro e W4⟨y,a2,rfl,hy6,ha2,hs4,hbt⟩;have HR1:=ah (mZ.out.src hs4 hbt);clear hs4 hbt mZ;obtain⟨N,hN⟩ : ∃N:Nat,y+1=N:=⟨_,rfl⟩;have Ob:(1:Int)+(y:Int)=(N:Int) :=by omega
  have hN6:N≤6:=by omega
  clear hN;go_wp2_with fail;go_loopw [7](fun iv wx=>∃(i:Nat)(A:Int)(v:aab)(l:List dK),i≤N∧iv= .int .i64 (i:Int)∧l.length=i∧A≤a0+6+30*(i:Int)∧Rw m0 b ao n cap A W0 wx tb v l)(fun iv _=>N-(intOf iv).toNat);case atStart=>exact⟨0,a2,_,[],by omega,rfl,rfl,by omega,HR1.out⟩
  case round=>
   clear HR1;obtain⟨i,A,v,l,hi,rfl,hl,hA,hR⟩ :=hrel;have HR:=ah hR;have HL:=ah hl;clear hR hl;by_cases hin:i<N
   ·have hiz:(i:Int)<(N:Int) :=by omega
    go_wp2_with fail;refine(HR.out.sr.zm hn (by omega) 3 (by decide) (by decide)).mono ?_;rintro e W5⟨fb,a3,rfl,ze,hs5,hbt⟩;have kK:=ah (HR.out.src hs5 hbt);clear hs5 hbt;go_wp2_with fail;refine(kK.out.sr.next hn (by omega) ((N:Int)+1) (by omega) (by omega)).mono ?_;rintro e W6⟨z,a4,rfl,hz,AA,hs6,hbt⟩;have rP:=ah (kK.out.src hs6 hbt);clear hs6 hbt kK HR;go_upto_region 12 with fail;have kZ:aas W6.heap.size W6 (W6.alloc (.cells #[.bool fb,.slice none 0 0,.int .i64 ((z:Int)-1)] 42)) :=(aar _ _).alloc (aau _) _;have Ou:=ah (rP.out.below kZ);have HC7:=ah (rP.out.bZ.start rP.out.but.size fb ((z:Int)-1));clear kZ rP;generalize W6.alloc (.cells #[.bool fb,.slice none 0 0,.int .i64 ((z:Int)-1)] 42)=W7 at*;generalize W6.heap.size=sb at*;generalize(z:Int)-1=ez at*;go_wp2_with fail;go_loopw [9](fun rv wx=>∃(r:Nat)(A':Int)(va:aab)(rs:List (Int×Int)),97≤r∧r≤100∧rv= .int .i64 (r:Int)∧rs.length+97≤r∧(∀a∈rs,a.1<128)∧A'≤a0+12+30*(i:Int)+6*((r:Int)-97)∧Rw m0 b ao n cap A' W0 wx tb v l∧mI wx W0.heap.size v l sb va fb rs ez)(fun rv _=>100-(intOf rv).toNat)
    case atStart=>exact⟨97,a4,_,[],by omega,by omega,rfl,by simp,fun a ha=>by simp at ha,by omega,Ou.out,HC7.out⟩
    case round=>
     clear Ou HC7;obtain⟨r,A1,va,rs,hr0,hr1,rfl,hrl,hrb,hA1,hR,hc⟩ :=hrel;have HR:=ah hR;have HC:=ah hc;have za:=ah hrb;have Mv:=ah hrl;clear hR hc hrb hrl;by_cases hrn:r<100
     ·have hrz:(r:Int)<100:=by omega
      go_wp2_with fail;refine(HR.out.sr.zm hn (by omega) 2 (by decide) (by decide)).mono ?_;rintro e W8⟨g,a5,rfl,FC,TS,hbt⟩;have Um:=ah (HR.out.src TS hbt);have Pe:=ah (HC.out.src HR.out.sr hbt);clear TS hbt HR HC;cases g
      ·go_wp2_with fail;go_roundw;case rel=>exact⟨r+1,a5,va,rs,by omega,by omega,by go_num,by have:=Mv.out;omega,za.out,by omega,Um.out,Pe.out⟩
       case measure=>simp[intOf];omega
      ·go_upto_region 16 with fail;refine sN (fun u=>u.heap[sb]?=some (.cells #[.bool fb,va,.int .i64 ez] 42)) 12 (by kernel_rfl) ?_;have hbd:aas W8.heap.size W8 ({heap:=W8.heap,tape:=W8.tape,drawn:=W8.drawn+1,os:=W8.os,output:=W8.output} :aaa) :=(aar _ _).drew;generalize({heap:=W8.heap,tape:=W8.tape,drawn:=W8.drawn+1,os:=W8.os,output:=W8.output} :aaa)=V0 at*;have hR0:=Um.out.below hbd;have hC0:=Pe.out.congr (fun k cs t _ hh=>aC hh hbd);have hS0:=hC0.box;have ZY:IntKind.i64.wrap ((N:Int)+1)=(N:Int)+1:=by rw[IntKind.wrap_i64];omega
       try refine te ?_
       refine ep 0 hS0 ?_;refine ep 2 hS0 ?_;refine ep 3 hS0 ?_;refine ep 4 hS0 ?_;refine ep 5 hS0 ?_;refine el 1 [10,12] hS0 (fun u hu=>o9 u _ _ _ rfl sb 1 va (by kernel_rfl) (aj hu 1)) ?_;refine gL 6 (by kernel_rfl) ?_;refine bQ 22 #[.pointer (some ⟨b,0,none⟩),.int .i64 ((N:Int)+1)] rfl (by kernel_rfl) (eT _ _ _ _ _ _ _ _ rfl _ _ (by kernel_rfl) (by kernel_rfl) (Tryd.call22 _ _)) ?_;refine(hR0.sr.next hn (by omega) ((N:Int)+1) (by omega) (by omega)).mono ?_;rintro e' V1⟨q,a6,rfl,hq,Fg,hs1,hbt⟩;have rV:=hR0.src hs1 hbt;have KV:=hC0.src hR0.sr hbt;refine⟨aap KV.box,?_⟩;try refine te ?_
       have hwq:IntKind.i64.wrap ((q:Int)-1)=(q:Int)-1:=by rw[IntKind.wrap_i64];omega
       refine ep 7 KV.box ?_;refine ep 8 KV.box ?_;have hS2:=aC KV.box ((aar _ _).alloc (aau _) (.cells #[.int .i64 (r:Int),.int .i64 ((q:Int)-1)] 44));refine e1 9 (qO _ _ _ _ rfl (r:Int) ((q:Int)-1) (by kernel_rfl)) hS2 ?_;refine gL 10 (by kernel_rfl) ?_;refine yl rfl (by kernel_rfl) rfl _ _ rfl W0.heap.size va _ _ (by kernel_rfl) KV.aR (r:Int) ((q:Int)-1) V1.heap.size rfl (by kernel_rfl) (by have:=Mv.out;omega) rV.but.size ?_;intro g4 c4 V2 gY dH fD;obtain⟨hR2,hC2,LK⟩ :=rV.BU KV (a:=((r:Int),(q:Int)-1)) dH gY fD;refine⟨aap LK,?_⟩;try refine te ?_
       refine ep 11 LK ?_;refine e1z 12 (wR _ _ _ _ _ rfl sb 1 (some ⟨g4,0,none⟩) (rs.length+1) c4 va (by kernel_rfl) (by kernel_rfl) (aj LK 1) (bL LK 1)) ?_;refine tH (by kernel_rfl) ?_ _;have Ch:=ah hR2;have Sb:=ah hC2;clear hR2 hC2 LK gY dH fD hS2 rV KV hs1 hbt hR0 hC0 hS0 hbd hwq ZY Um Pe;go_wp2_with fail;go_roundw;case rel=>
        exact⟨r+1,a6,_,rs++ [((r:Int),(q:Int)-1)],by omega,by omega,by go_num,by have:=Mv.out;simp;omega,fun a ha=>by
         rcases List.mem_append.1 ha with ha|ha;·exact za.out a ha
         ·rw[List.mem_singleton.1 ha];show(r:Int)<128;omega,by omega,Ch.out,Sb.out⟩
       case measure=>simp[intOf];omega
     ·have hrz: ¬(r:Int)<100:=by omega
      have va1:(va:aab).oneCell'=true:=by
       rcases HC.out.aR.2 with⟨h3,_⟩| ⟨_,_,_,h3,_⟩;·rw[h3];rfl
       ·rw[h3];rfl
      obtain⟨xa,xn,xc,rfl⟩ : ∃a n c,va= .slice a n c:=by
       rcases HC.out.aR.2 with⟨h3,_⟩| ⟨_,_,_,h3,_⟩;·exact⟨_,_,_,h3⟩
       ·exact⟨_,_,_,h3⟩
      obtain⟨av,cv,rfl⟩ :=HR.out.bZ.vals;have t0:=aj HR.out.box 0;have s0:=aj HC.out.box 0;have s1:=aj HC.out.box 1;have s2:=aj HC.out.box 2;have xG:=ah HR.out.bZ.row;have hba:=HR.out.but.size;have hlb:(l.length+1)*40≤140737488355328:=by rw[HL.out];omega
      have uD:Hid (∀y∈(#[.bool fb,.slice xa xn xc,.int .i64 ez] :Array aab).toList,y.oneCell'=true) :=by show∀_,_;intro y hy;simp at hy;rcases hy with rfl|rfl|rfl<;>rfl
      go_wp2_with(at_builtin;refine nC rfl _ _ 23 42 rfl is (.agg #[.bool false,.slice none 0 0,.int .i64 0]) 3 40 Tryd.underlying23 his hs0 hs1 hs2 rfl (by decide) W0.heap.size (.slice av l.length cv) _ _ rfl xG.out #[.bool fb,.slice xa xn xc,.int .i64 ez] rfl uD.out rfl hlb (by decide) hba ?_);intro v' W9 uR oh sw EE;obtain⟨hP1,hP2⟩ :=HR.out.push HC.out oh uR (by have:=HL.out;omega) (by have:=Mv.out;omega) za.out;obtain⟨g9,c9,rfl⟩ : ∃g c,v'= .slice (some ⟨g,0,none⟩) (l.length+1) c:=by exact aaP
      have t3:=aj hP2 0;have z3:=bL hP2 0;have bY:=ah hP1;clear hP1 hP2 uR oh sw EE t0 s0 s1 s2 xG HR HC;go_wp2_with fail;go_roundw;case rel=>exact⟨i+1,A1,_,l++ [(.slice xa xn xc,fb,rs,ez)],by omega,by go_num,by rw[aa1,HL.out];rfl,by omega,bY.out⟩
      case measure=>simp[intOf];omega
   ·have hiz: ¬(i:Int)<(N:Int) :=by omega
    obtain⟨av,c9,rfl⟩ :=HR.out.bZ.vals;have t0:=aj HR.out.box 0;obtain⟨q1,q2⟩ :=Kv (a0:=a0) HR.out.res (HR.out.ok.mono (by decide) (by decide)) HR.out.bZ (by omega) HR.out.sr HR.out.but hlt;have s0:=aj HR.out.res 0;have f0:=bL HR.out.res 0;have fu:=ah q1;have gZ:=ah q2;clear q1 q2 HR;exact Xc
 ·have hz0:((y:Int)==0)=false:=by simp;omega
  have hz1:((y:Int)==1)=false:=by simp;omega
  have hb3:aas W2.heap.size W2 (W2.alloc (.cells (Gb.map aal).toArray 9)) :=(aar _ _).alloc (aau _) _;have AP:=aaA W2 (.cells (Gb.map aal).toArray 9);have fJ:=ah (HS2.out.below hb3);have dR:=ah (aC kQ.out hb3);have HB3:Hid (But (fun x=>x=b) W0 (W2.alloc (.cells (Gb.map aal).toArray 9))) :=HB2.out.trans (But.of_below (X:=fun x=>x=b) hb3) (fun i _ e=>e) (fun i _ e=>e);have AB:=ah AP;clear hb3 AP HS2 kQ HB2;go_wp2_with fail;refine(fJ.out.next hn (by omega) 8 (by decide) (by decide)).mono ?_;rintro e W4⟨X,a2,rfl,hX,ha2,hs4,hbt⟩;obtain⟨st,hst,OZ⟩ :=abZ X (by omega);have hX4:=fJ.out.other hbt (by decide) dR.out;have hN4:=fJ.out.other hbt (by decide) AB.out;have hB4:But (fun x=>x=b) W0 W4:=HB3.out.trans hbt (fun i _ e=>e) (fun i _ e=>e);have c4:W4.cell? ⟨W2.heap.size,X,none⟩=some (.string st) :=(aj hN4 X).trans hst
  have BI:=ah hX4;have eF:=ah hB4;have qw:=ah hs4;have hXn:X<8:=by omega
  clear hs4 hbt hst hX4 hN4 hB4 fJ dR HB3 AB;go_wp2_with fail;refine(ack hC st OZ W4).mono ?_;rintro e W5⟨v,l,c,rfl,hd,hm,hb5⟩;obtain⟨av,c9,rfl⟩ :=hm.vals;have hb6:aas W5.heap.size W5 (W5.alloc (.cells #[.slice av l.length c9] 25)) :=(aar _ _).alloc (aau _) _;have Vr:=aaA W5 (.cells #[.slice av l.length c9] 25);have ES:=hb5.trans (hb6.mono hb5.size);have hX6:=aC BI.out ES;obtain⟨q1,q2⟩ :=Kv (a0:=a0) hX6 hd ((hm.below hb6).lower eF.out.size) (by omega) (qw.out.below ES) (eF.out.trans (But.of_below (X:=fun x=>x=b) ES) (fun i _ e=>e) (fun i _ e=>e)) hlt;have t0:=aj Vr 0;have s0:=aj hX6 0;have f0:=bL hX6 0;have fu:=ah q1;have gZ:=ah q2;clear q1 q2 hX6 ES Vr hb6 hd hm hb5 c4;exact Xc
theorem MJ {W:aaa} {base e size n g cap:Nat} {xs:List aab}(h:W.ownsRow base e size (.slice (some ⟨g,0,none⟩) n cap) n xs) {p:Nat}(hp:p<n*size)(u:aab)(hu:u.oneCell'=true) :(W.setCell ⟨g,p,none⟩ u).ownsRow base e size (.slice (some ⟨g,0,none⟩) n cap) n (xs.set p u) :=by
 have hl:=h.1;refine⟨by rw[aaR];exact hl,?_⟩;rcases h.2 with⟨h',_⟩| ⟨g',c',cur,h1,h2,h3,h4,h5,h6,h7⟩;·simp at h'
 ·simp only[Value.slice.injEq,aav,Addr.mk.injEq,and_true,true_and]at h1;obtain⟨rfl,rfl⟩ :=h1;refine aap ⟨g,cap,cur.setIfInBounds p u,rfl,h2,aL h3 p _,h4,h5,by simpa using h6,?_⟩;rw[Array.toList_setIfInBounds,List.take_set,h7]
theorem DZ: ∀(l:List dK)(k:Nat)(s:dK),k<l.length→dS (l.set k s)=(((dS l).set (k*3) (.bool s.2.1)).set (k*3+1) s.1).set (k*3+2) (.int .i64 s.2.2.2)
 | [],k,s,h=>absurd h (by simp)
 |t::l,0,s,_=>rfl
 |t::l,k+1,s,h=>by have ih:=DZ l k s (by simpa using h);rw[aaY];show[_,_,_]++dS (l.set k s)=_;rw[ih,show(k+1)*3=k*3+1+1+1 by omega];rfl
theorem zR(l:List dK) : ∀(k:Nat)(s:dK),l[k]?=some s→(dS l)[k*3]?=some (.bool s.2.1)∧(dS l)[k*3+1]?=some s.1∧(dS l)[k*3+2]?=some (.int .i64 s.2.2.2) :=by
 induction l with
 |nil=>intro k s h;simp at h
 |cons t l ih=>
  intro k s h;match k,h with
  |0,h=>simp at h;subst h;exact⟨rfl,rfl,rfl⟩
  |k+1,h=>obtain⟨h1,h2,h3⟩ :=ih k s (by simpa using h);rw[show(k+1)*3=k*3+1+1+1 by omega];exact⟨h1,h2,h3⟩
theorem qa {X:Type} {l:List X} {i:Nat} {x:X}(h:l[i]?=some x) :l.set i x=l:=by obtain⟨h1,h2⟩ :=List.getElem?_eq_some_iff.1 h;rw[←h2];exact List.set_getElem_self h1
theorem bq.setSt {W W1 W':aaa} {base g n cap k:Nat} {l:List dK} {s s':dK}(hrow:W1.ownsRow base 42 3 (.slice (some ⟨g,0,none⟩) n cap) n (dS l))(hn:n=l.length)(hk:l[k]?=some s)(hW:W'=W1.setCell ⟨g,k*3+1,none⟩ s'.1∧s'.2.1=s.2.1∧s'.2.2.2=s.2.2.2∧s'.1.oneCell'=true∨W'=W1.setCell ⟨g,k*3+2,none⟩ (.int .i64 s'.2.2.2)∧s'.2.1=s.2.1∧s'.1=s.1)(hat: ∀t∈l.set k s',W1.ownsRow base 44 2 t.1 t.2.2.1.length (dN t.2.2.1))(hap:(l.set k s').Pairwise fun s t=>iy s.1 t.1) :bq W' base (.slice (some ⟨g,0,none⟩) n cap) (l.set k s') :=by
 obtain⟨c0,c1,c2⟩ :=zR l k s hk;have hkl:=(List.getElem?_eq_some_iff.1 hk).1;obtain⟨_,cur,hg⟩ :=aA hrow (b:=g) rfl;have hs:=DZ l k s' hkl;have hoth: ∀p u,∀t∈l.set k s',(W1.setCell ⟨g,p,none⟩ u).ownsRow base 44 2 t.1 t.2.2.1.length (dN t.2.2.1) :=fun p u t ht=>aG (hat t ht) (fun b hb=>by obtain⟨_,c9,h9⟩ :=aA (hat t ht) hb;rw[ay W1 g p u b (aN h9 hg (by decide)),h9]);subst hn;rcases hW with⟨rfl,e1,e2,e3⟩| ⟨rfl,e1,e2⟩;·refine⟨?_,hoth _ _,hap⟩;rw[aaR,hs,e1,e2,qa c0,List.set_comm _ _ (by omega),qa c2];exact MJ hrow (by omega) _ e3
 ·refine⟨?_,hoth _ _,hap⟩;rw[aaR,hs,e1,e2,qa c0,qa c1];exact MJ hrow (by omega) _ rfl
theorem wo {X:Type} {R:X→X→Prop}(ah7: ∀x y,R x y→R y x) : ∀(l:List X)(k:Nat)(x:X),l.Pairwise R→(∀i y,i≠k→l[i]?=some y→R y x)→(l.set k x).Pairwise R
 | [],k,x,_,_=>by simp
 |a::l,0,x,h,hx=>by rw[List.set_cons_zero];exact List.pairwise_cons.2 ⟨fun y hy=>by obtain⟨i,hi⟩ :=List.mem_iff_getElem?.1 hy;exact ah7 _ _ (hx (i+1) y (by omega) (by simpa using hi)),(List.pairwise_cons.1 h).2⟩
 |a::l,k+1,x,h,hx=>by
  rw[aaY];refine List.pairwise_cons.2 ⟨fun y hy=> ?_,wo ah7 l k x (List.pairwise_cons.1 h).2 fun i y hi hy=>hx (i+1) y (by omega) (by simpa using hy)⟩;rcases aaU hy with hy|rfl;·exact(List.pairwise_cons.1 h).1 y hy
  ·exact hx 0 a (by omega) rfl
theorem iy.symm {u v:aab}(h:iy u v) :iy v u:=by
 unfold iy at*;rcases h with h|h
 ·cases hv:v.ownBlock with
  |none=>exact aaF rfl
  |some k=>exact aap (by rw[h];simp)
 ·exact aap (Ne.symm h)
theorem eu.set {N K N' K':Nat} {D:List aT}(h:eu N K D)(hN:N≤N')(hK:K≤K')(k:Nat)(s:aT)(h1:s.2.1.length≤K')(h2: ∀a∈s.2.1,a.1<128∨ig a.1=false) :eu N' K' (D.set k s) :=by
 refine⟨by rw[aaR];exact aaV h.len hN,fun t ht=> ?_,fun t ht=> ?_⟩
 ·rcases aaU ht with ht|rfl;·exact aaV (h.aR t ht) hK
  ·exact h1
 ·rcases aaU ht with ht|rfl;·exact h.low t ht
  ·exact h2
def rQ(v:aab)(l:List dK)(k:Nat) :Prop:=v.ownBlock=some k∨∃s∈l,s.1.ownBlock=some k
structure Bt(m0 b:Nat)(ao:Option aah)(n cap:Nat)(A:Int)(W0 W:aaa)(base top:Nat)(v:aab)(l:List dK) :Prop where
 sr:Sr m0 b ao n cap A W
 but:But (fun x=>x=b∨(base≤x∧x<top)) W0 W
 box:W.heap[W0.heap.size]?=some (.cells #[v] 25)
 res:W.heap[W0.heap.size+1]?=some (.cells #[.slice none 0 0] 25)
 bZ:bq W base v l
 tp: ∀k,rQ v l k→k<top∨W0.heap.size≤k
 lt:b<base
 low:base≤W0.heap.size
 Ry:top≤W0.heap.size
section
variable {m0 b:Nat} {ao:Option aah} {n cap:Nat} {A A':Int} {W0 W W':aaa} {base top:Nat} {v v':aab} {l l':List dK}
theorem bq.inv(h:bq W base v l) {k:Nat}(hk:rQ v l k) :base≤k∧∃cs t,(t=42∨t=44)∧W.heap[k]?=some (.cells cs t) :=by
 rcases hk with hk| ⟨s,hs,hk⟩;·obtain⟨h1,cs,h2⟩ :=aA h.row hk;exact⟨h1,cs,_,aaF rfl,h2⟩
 ·obtain⟨h1,cs,h2⟩ :=aA (h.aR s hs) hk;exact⟨h1,cs,_,aap rfl,h2⟩
theorem Bt.src(h:Bt m0 b ao n cap A W0 W base top v l)(hs:Sr m0 b ao n cap A' W')(hb:But (fun x=>x=b) W W') :Bt m0 b ao n cap A' W0 W' base top v l:=by obtain⟨cs,hbx⟩ :=h.sr.box;exact⟨hs,h.but.trans hb (fun i _ e=>e) (fun i _ e=>aaF e),h.sr.other hb (by decide) h.box,h.sr.other hb (by decide) h.res,h.bZ.congr fun k ds t ht _ hh=>(h.sr.other hb (by rcases ht with rfl|rfl<;>decide) hh),h.tp,h.lt,h.low,h.Ry⟩
theorem Bt.below(h:Bt m0 b ao n cap A W0 W base top v l)(hb:aas W.heap.size W W') :Bt m0 b ao n cap A W0 W' base top v l:=⟨h.sr.below hb,h.but.trans (But.of_below (X:=fun x=>x=b) hb) (fun i _ e=>e) (fun i _ e=>aaF e),aC h.box hb,aC h.res hb,h.bZ.below hb,h.tp,h.lt,h.low,h.Ry⟩
theorem Bt.put(h:Bt m0 b ao n cap A W0 W base top v l)(hb:But (rQ v l) W W')(hd:bq W' base v' l')(ht: ∀k,rQ v' l' k→rQ v l k∨W.heap.size≤k)(hv:v'=v) :Bt m0 b ao n cap A W0 W' base top v' l':=by
 subst hv;have hsz:=h.but.size;have hX: ∀k,rQ v' l k→base≤k∧k≠b∧(k<top∨W0.heap.size≤k) :=fun k hk=>by have h1:=(h.bZ.inv hk).1;have:=h.lt;exact⟨h1,by omega,h.tp k hk⟩
 have ho: ∀(k:Nat)(cs:Array aab)(t:aaE),t≠42→t≠44→W.heap[k]?=some (.cells cs t)→W'.heap[k]?=some (.cells cs t) :=fun k cs t h1 h2 hh=>by exact agf
 refine⟨h.sr.keep hb (fun x hx=>⟨by have:=(hX x hx).1;have:=h.sr.mb;have:=h.lt;omega,(hX x hx).2.1⟩),h.but.trans hb (fun i _ e=>e) (fun i hi e=>aap ⟨(hX i e).1,by rcases(hX i e).2.2 with h9|h9<;>omega⟩),ho _ _ _ (by decide) (by decide) h.box,ho _ _ _ (by decide) (by decide) h.res,hd,fun k hk=> ?_,h.lt,h.low,h.Ry⟩;rcases ht k hk with h1|h1;·exact h.tp k h1
 ·exact aap (by omega)
theorem Bt.row(h:Bt m0 b ao n cap A W0 W base top v l)(hb:But (rQ v l) W W')(hd:bq W' base v' l')(ht: ∀k,rQ v' l' k→rQ v l k∨W.heap.size≤k) :Bt m0 b ao n cap A W0 (W'.setCell ⟨W0.heap.size,0,none⟩ v') base top v' l'∧W'.heap[W0.heap.size]?=some (.cells #[v] 25) :=by
 have hsz:=h.but.size;have hX: ∀k,rQ v l k→base≤k∧k≠b∧(k<top∨W0.heap.size≤k) :=fun k hk=>by have h1:=(h.bZ.inv hk).1;have:=h.lt;exact⟨h1,by omega,h.tp k hk⟩
 have ho: ∀(k:Nat)(cs:Array aab)(t:aaE),t≠42→t≠44→W.heap[k]?=some (.cells cs t)→W'.heap[k]?=some (.cells cs t) :=fun k cs t h1 h2 hh=>by exact agf
 have hbx:=ho _ _ _ (by decide) (by decide) h.box;have hrs:=ho _ _ _ (by decide) (by decide) h.res;have hb2:But (fun x=>rQ v l x∨x=W0.heap.size) W (W'.setCell ⟨W0.heap.size,0,none⟩ v') :=(hb.mono (Z:=fun x=>rQ v l x∨x=W0.heap.size) fun i _ e=>aaF e).set _ _ _ (aap rfl);refine⟨⟨h.sr.keep hb2 (fun x hx=> ?_),h.but.trans hb2 (fun i _ e=>e) (fun i hi e=> ?_),by have:=aL hbx 0 v';simpa using this,?_,hd.congr fun k cs t ht _ hh=> ?_,fun k hk=> ?_,h.lt,h.low,h.Ry⟩,hbx⟩
 ·have h1:=h.sr.mb;have h2:=h.lt;have h3:=h.low;rcases hx with hx|rfl;·exact⟨by have:=(hX x hx).1;omega,(hX x hx).2.1⟩
  ·exact⟨by omega,by omega⟩
 ·rcases e with e|e;·exact aap ⟨(hX i e).1,by rcases(hX i e).2.2 with h9|h9<;>omega⟩
  ·omega
 ·rw[ay W' W0.heap.size 0 _ _ (by omega)];exact hrs
 ·rw[ay W' W0.heap.size 0 _ k (by
   rintro rfl;rw[hbx]at hh;simp only[aav,aaw]at hh;rcases ht with rfl|rfl;·exact absurd hh.2.1 (by decide)
   ·exact absurd hh.2.1 (by decide))];exact hh
 ·rcases ht k hk with h1|h1;·exact h.tp k h1
  ·exact aap (by omega)
end
def TH(m0 b:Nat)(ao:Option aah)(n cap:Nat)(a0:Int)(W:aaa)(base top:Nat)(e:Ending)(W':aaa) :Prop:=∃v l a',e= .returned (.agg #[v])∧eu 258 32 (l.map aat)∧bq W' base v l∧a'≤a0+2000∧Sr m0 b ao n cap a' W'∧But (fun x=>x=b∨(base≤x∧x<top)) W W'
theorem Bt.fin {m0 b:Nat} {ao:Option aah} {n cap:Nat} {A a0:Int} {W0 W:aaa} {base top:Nat} {v:aab} {l:List dK}(h:Bt m0 b ao n cap A W0 W base top v l)(hd:eu 258 32 (l.map aat))(ha:A≤a0+2000) : ∃a c,v= .slice a l.length c∧W.cell? ⟨W0.heap.size,0,none⟩=some v∧W.cell? ⟨W0.heap.size+1,0,none⟩=some (.slice none 0 0)∧W.frozen? ⟨W0.heap.size+1,0,none⟩=false∧(W.setCell ⟨W0.heap.size+1,0,none⟩ v).cell? ⟨W0.heap.size+1,0,none⟩=some v∧TH m0 b ao n cap a0 W0 base top (.returned (.agg #[v])) (W.setCell ⟨W0.heap.size+1,0,none⟩ v) :=by
 obtain⟨a,c,rfl⟩ :=h.bZ.vals;have h1:=h.sr.mb;have h2:=h.lt;have h3:=h.low;refine⟨a,c,rfl,aj h.box 0,aj h.res 0,bL h.res 0,by rw[aj (aL h.res 0 _) 0];simp,_,l,A,rfl,hd,h.bZ.congr fun k cs t ht _ hh=> ?_,ha,h.sr.keep ((But.refl (fun k=>k=W0.heap.size+1) W).set (W0.heap.size+1) 0 _ rfl) (fun x hx=>⟨by omega,by omega⟩),h.but.trans ((But.refl (fun k=>k=W0.heap.size+1) W).set (W0.heap.size+1) 0 _ rfl) (fun i _ e=>e) (fun i hi e=>by omega)⟩;have hr:=h.res;rw[ay W (W0.heap.size+1) 0 _ k (by
  rintro rfl;rw[hr]at hh;simp only[aav,aaw]at hh;rcases ht with rfl|rfl;·exact absurd hh.2.1 (by decide)
  ·exact absurd hh.2.1 (by decide))];exact hh
end Go.Proofs.YtkbjimkngmlfcaaDoor
